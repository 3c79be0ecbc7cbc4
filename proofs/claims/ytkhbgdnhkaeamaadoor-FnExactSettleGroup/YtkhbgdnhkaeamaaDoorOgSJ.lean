/-
  Groups that the program owns: impl.ownList of numbers, rows and replicas, impl.copyGroup. Made by mkogi.py.
  Replicas that are gathered one by one, each with a log of its own: OwS.
-/
import Derived.Test.YtkhbgdnhkaeamaaDoorOg2J
import Derived.Test.YtkhbgdnhkaeamaaDoorGrC
import Derived.Test.YtkhbgdnhkaeamaaDoorRwiM
import Derived.Test.YtkhbgdnhkaeamaaDoorQList
import Derived.Deep.RegionHeld3
import Derived.WalkMore
namespace Go.Proofs.YtkhbgdnhkaeamaaDoor
open Go.RowKit

theorem rowRw_of_owns {w : World} {B : Nat} {a : Option Addr} {c n : Nat} {xs : List Value} (h : w.ownsRow B 98 2 (.slice a n c) n xs) : RowRw w B a n := by
  by_cases h0 : n = 0
  · exact .inl h0
  · obtain ⟨g, cap, f, hv, hg, hn, hR, -⟩ := row_of_ownsZ h (by omega)
    simp only [Value.slice.injEq] at hv
    obtain ⟨rfl, -, rfl⟩ := hv
    exact .inr ⟨g, _, f, rfl, hg, Nat.mul_le_mul_right 2 hn, hR⟩

set_option maxRecDepth 100000 in
set_option maxHeartbeats 4000000 in
theorem ownListR_any (a : Option Addr) (m c : Nat) (l : List Rw) (w : World) (hs : Rws w a l) (hm : m ≤ l.length) (hl : m ≤ 1000000) :
    Calls Tryd.prog 77 #[.slice a m c] w fun e w' => ∃ a' c', e = .returned (.slice a' m c') ∧ Rws w' a' (l.take m) ∧ RowRw w' w.heap.size a' m ∧ m ≤ c' ∧ Below w.heap.size w w' := by
  obtain ⟨i1, hi1, hy0, hy1, hy2⟩ := infoZ Tryd.infoRw
  have hLm : Hid ((l.take m).length = m) := by show _ = _; simp; omega
  go_enter Tryd.func77, Tryd.ntmps77
  go_wp2_with (at_builtin; refine wpList_appZ _ rfl _ _ 79 rfl w.heap.size 98 i1 _ 2 16 Tryd.underlying79 hi1 hy0 hy1 hy2 rfl (by decide) (.slice none 0 0) 0 [] rfl (World.ownsRow_nil _ _ _ _) (.slice a m c) m ((l.take m).flatMap rwC) rfl (srcZ_rws _ hs hm) ?c3 ?c4 ?c5 ?_)
  case c3 => unfold maxLen; omega
  case c4 => omega
  case c5 => omega
  intro v w4 hown hgrow hat
  try simp only [Nat.zero_add, List.nil_append] at hown
  obtain ⟨av, cv, rfl⟩ := ownsZ_form hown
  have B4 : Below w.heap.size w w4 := (Below.refl _ _).grown hgrow (Nat.le_refl _) (fun b hb => by simp [Value.ownBlock] at hb)
  have hcv : m ≤ cv := by obtain ⟨a9, c9, e9, h9, -⟩ := ownsZ_cap hown; simp only [Value.slice.injEq] at e9; omega
  have HR : Hid (RowRw w4 w.heap.size av m) := rowRw_of_owns hown
  have HO : Hid (Rws w4 av (l.take m)) := by
    have := hown
    rw [← hLm.out] at this
    refine rws_of_owns (B := w.heap.size) (c := cv) ?_
    rw [hLm.out] at this ⊢
    exact this
  clear hgrow hat hown
  go_wp2
  refine bodyPost_ret (v := .slice av m cv) (by simp [results, Tryd.results77, go_sem]) rfl ⟨av, cv, rfl, HO.out, HR.out, hcv, B4⟩

set_option maxRecDepth 100000 in
set_option maxHeartbeats 4000000 in
theorem ownListI_any (a : Option Addr) (c : Nat) (l : List Int) (w : World) (hs : Ints w a l) (hl : l.length ≤ 1000000) :
    Calls Tryd.prog 75 #[.slice a l.length c] w fun e w' => ∃ a' c', e = .returned (.slice a' l.length c') ∧ Ints w' a' l ∧ RowI w' w.heap.size a' l.length ∧ Below w.heap.size w w' := by
  obtain ⟨i1, hi1, hy0, hy1, hy2⟩ := infoZ Tryd.infoInt
  go_enter Tryd.func75, Tryd.ntmps75
  go_wp2_with (at_builtin; refine wpList_appZ _ rfl _ _ 22 rfl w.heap.size 3 i1 _ 1 8 Tryd.underlying22 hi1 hy0 hy1 hy2 rfl (by decide) (.slice none 0 0) 0 [] rfl (World.ownsRow_nil _ _ _ _) (.slice a l.length c) l.length (zCells l) rfl (srcZ_ints _ hs) ?c3 ?c4 ?c5 ?_)
  case c3 => unfold maxLen; omega
  case c4 => omega
  case c5 => omega
  intro v w4 hown hgrow hat
  try simp only [Nat.zero_add, List.nil_append] at hown
  obtain ⟨av, cv, rfl⟩ := ownsZ_form hown
  have B4 : Below w.heap.size w w4 := (Below.refl _ _).grown hgrow (Nat.le_refl _) (fun b hb => by simp [Value.ownBlock] at hb)
  have HI := ints_of_owns hown
  have HO : Hid (Ints w4 av l) := HI.1
  have HR : Hid (RowI w4 w.heap.size av l.length) := HI.2
  clear hgrow hat hown HI
  go_wp2
  refine bodyPost_ret (v := .slice av l.length cv) (by simp [results, Tryd.results75, go_sem]) rfl ⟨av, cv, rfl, HO.out, HR.out, B4⟩

def rqC (q : Rq) : List Value := [.slice q.a q.p.log.length q.c, .int .i64 q.p.epoch, .int .i64 q.p.known]
theorem rqC_len (q : Rq) : (rqC q).length = 3 := rfl
theorem rqC_one (q : Rq) : ∀ u ∈ rqC q, u.oneCell' = true := fun u hu => by simp [rqC] at hu; rcases hu with rfl | rfl | rfl <;> rfl

/-- Replicas that are read, with where their logs lie. -/
theorem rps_qs {w : World} {a : Option Addr} {l : List Rp} (h : Rps w a l) : ∃ qs : List Rq, qs.map Rq.p = l ∧ ∀ (i : Nat) (q : Rq), qs[i]? = some q → ∃ K o, a = some ⟨K, o, none⟩ ∧ (∀ (r : Nat) u, (rqC q)[r]? = some u → w.cell? ⟨K, o + i * 3 + r, none⟩ = some u) ∧ Rws w q.a q.p.log ∧ q.p.log.length ≤ maxLen := by
  have ex : ∀ i : Nat, ∃ x : Option Addr × Nat, ∀ c, l[i]? = some c → ∃ K o, a = some ⟨K, o, none⟩ ∧ w.cell? ⟨K, o + i * 3, none⟩ = some (.slice x.1 c.log.length x.2) ∧ w.cell? ⟨K, o + i * 3 + 1, none⟩ = some (.int .i64 c.epoch) ∧ w.cell? ⟨K, o + i * 3 + 2, none⟩ = some (.int .i64 c.known) ∧ Rws w x.1 c.log ∧ c.log.length ≤ maxLen := fun i => by
    cases e : l[i]? with
    | none => exact ⟨(none, 0), fun c hc => by cases hc⟩
    | some c =>
      obtain ⟨K, o, ea, r0, k0, h0, h1, h2, h3, h4⟩ := h i c e
      exact ⟨(r0, k0), fun c' hc => by cases hc; exact ⟨K, o, ea, h0, h1, h2, h3, h4⟩⟩
  refine ⟨l.mapIdx fun i p => ⟨p, (Classical.choose (ex i)).1, (Classical.choose (ex i)).2⟩, by simp [List.mapIdx_eq_zipIdx_map, List.map_map, Function.comp_def], fun i q hq => ?_⟩
  simp only [List.getElem?_mapIdx, Option.map_eq_some_iff] at hq
  obtain ⟨c, hc, rfl⟩ := hq
  obtain ⟨K, o, ea, h0, h1, h2, h3, h4⟩ := Classical.choose_spec (ex i) c hc
  refine ⟨K, o, ea, fun r u hu => ?_, h3, h4⟩
  match r, hu with
  | 0, hu => simp [rqC] at hu; subst hu; exact h0
  | 1, hu => simp [rqC] at hu; subst hu; exact h1
  | 2, hu => simp [rqC] at hu; subst hu; exact h2
  | r + 3, hu => simp [rqC] at hu

/-- A row of replicas that is owned, their logs lying elsewhere. -/
theorem ogk_of_owns {w w0 : World} {B R c : Nat} {qs : List Rq} (hown : w.ownsRow B 81 3 (.slice (some ⟨R, 0, none⟩) qs.length c) qs.length (qs.flatMap rqC)) (h0 : 0 < qs.length) (hb : Below w0.heap.size w0 w) (hB : w0.heap.size ≤ B)
    (hl : ∀ (i : Nat) (q : Rq), qs[i]? = some q → Rws w0 q.a q.p.log ∧ q.p.log.length ≤ maxLen) : Ogk w B R 0 qs := by
  obtain ⟨g, cap, f, hv, hg, hn, hR, hx⟩ := row_of_ownsZ hown h0
  simp only [Value.slice.injEq, Option.some.injEq, Addr.mk.injEq, and_true, true_and] at hv
  obtain ⟨rfl, rfl⟩ := hv
  refine ⟨⟨c * 3, f, Nat.mul_le_mul_right 3 hn, hR, fun i q hq => ?_⟩, hg, fun i q hq => ⟨(hl i q hq).1.below hb, (hl i q hq).2⟩, fun i q hq hk => absurd hk (Nat.not_lt_zero _), fun i q b hq hi => ?_, fun i q b hq hi => ?_, fun i j q q' b hq hq' hne hk => absurd hk (Nat.not_lt_zero _), fun i q hq hk => absurd hk (Nat.not_lt_zero _)⟩
  · have hlt := (List.getElem?_eq_some_iff.1 hq).1
    have cel : ∀ r, r < 3 → (rqC q)[r]? = some (f (i * 3 + r)) := fun r hr => by
      rw [← flatZ_get rqC_len qs i r q hq hr]
      exact hx _ (by omega)
    exact ⟨(Option.some.inj (cel 0 (by omega))).symm, (Option.some.inj (cel 1 (by omega))).symm, (Option.some.inj (cel 2 (by omega))).symm⟩
  · have := rws_lt (hl i q hq).1 hi
    have := hb.size
    omega
  · have := rws_lt (hl i q hq).1 hi
    omega

set_option maxRecDepth 100000 in
set_option maxHeartbeats 4000000 in
theorem ownListQ_any (a : Option Addr) (c N : Nat) (l : List Rp) (w : World) (hs : Rps w a l) (h0 : 0 < l.length) (hl : l.length ≤ 1000000) (hN : ∀ K o, a = some ⟨K, o, none⟩ → ∀ (i : Nat) (p : Rp), l[i]? = some p → ∀ r0 k0, w.cell? ⟨K, o + i * 3, none⟩ = some (.slice r0 p.log.length k0) → ∀ b, InI r0 p.log.length b → b < N) :
    Calls Tryd.prog 76 #[.slice a l.length c] w fun e w' => ∃ R c' qs, e = .returned (.slice (some ⟨R, 0, none⟩) l.length c') ∧ qs.map Rq.p = l ∧ Ogk w' w.heap.size R 0 qs ∧ (∀ (i : Nat) (q : Rq), qs[i]? = some q → ∀ b, InI q.a q.p.log.length b → b < N) ∧ Below w.heap.size w w' := by
  obtain ⟨i1, hi1, hy0, hy1, hy2⟩ := infoZ Tryd.infoRp
  obtain ⟨qs, hqs, hq⟩ := rps_qs hs
  have hlen : qs.length = l.length := by rw [← hqs, List.length_map]
  have hsrc : SrcZ w (.slice a l.length c) l.length 3 (qs.flatMap rqC) := by
    rw [← hlen]
    exact srcZ_flat rqC_len (by decide) rqC_one c fun i x hx => by
      obtain ⟨K, o, ea, h1, -⟩ := hq i x hx
      exact ⟨K, o, ea, h1⟩
  have HNN : Hid (∀ (i : Nat) (q : Rq), qs[i]? = some q → ∀ b, InI q.a q.p.log.length b → b < N) := fun i q h b hi => by
    obtain ⟨K, o, ea, h1, -⟩ := hq i q h
    exact hN K o ea i q.p (by rw [← hqs, List.getElem?_map, h]; rfl) q.a q.c (by simpa using h1 0 _ rfl) b hi
  clear hN
  have HQ : Hid (qs.map Rq.p = l ∧ qs.length = l.length ∧ ∀ (i : Nat) (q : Rq), qs[i]? = some q → Rws w q.a q.p.log ∧ q.p.log.length ≤ maxLen) := ⟨hqs, hlen, fun i q h => by obtain ⟨K, o, -, -, h3, h4⟩ := hq i q h; exact ⟨h3, h4⟩⟩
  clear hqs hlen hq
  go_enter Tryd.func76, Tryd.ntmps76
  go_wp2_with (at_builtin; refine wpList_appZ _ rfl _ _ 23 rfl w.heap.size 81 i1 _ 3 40 Tryd.underlying23 hi1 hy0 hy1 hy2 rfl (by decide) (.slice none 0 0) 0 [] rfl (World.ownsRow_nil _ _ _ _) (.slice a l.length c) l.length (qs.flatMap rqC) rfl hsrc ?c3 ?c4 ?c5 ?_)
  case c3 => unfold maxLen; omega
  case c4 => omega
  case c5 => omega
  intro v w4 hown hgrow hat
  try simp only [Nat.zero_add, List.nil_append] at hown
  have B4 : Below w.heap.size w w4 := (Below.refl _ _).grown hgrow (Nat.le_refl _) (fun b hb => by simp [Value.ownBlock] at hb)
  obtain ⟨R, cv, f, rfl, hg, -, -, -⟩ := row_of_ownsZ hown h0
  have HO : Hid (Ogk w4 w.heap.size R 0 qs) := by
    refine ogk_of_owns (c := cv) ?_ (by rw [HQ.out.2.1]; exact h0) B4 (Nat.le_refl _) HQ.out.2.2
    rw [HQ.out.2.1]; exact hown
  clear hgrow hat hown hsrc
  go_wp2
  refine bodyPost_ret (v := .slice (some ⟨R, 0, none⟩) l.length cv) (by simp [results, Tryd.results76, go_sem]) rfl ⟨R, cv, qs, rfl, HQ.out.1, HO.out, HNN.out, B4⟩

theorem ownListW_any (a : Option Addr) (c : Nat) (l : List Rw) (w : World) (hs : Rws w a l) (hl : l.length ≤ 1000000) :
    Calls Tryd.prog 77 #[.slice a l.length c] w fun e w' => ∃ a' c', e = .returned (.slice a' l.length c') ∧ Rws w' a' l ∧ RowRw w' w.heap.size a' l.length ∧ l.length ≤ c' ∧ Below w.heap.size w w' :=
  (ownListR_any a l.length c l w hs (Nat.le_refl _) hl).mono fun e w' ⟨a', c', h1, h2, h3, hc, h4⟩ => ⟨a', c', h1, by rw [List.take_length] at h2; exact h2, h3, hc, h4⟩

set_option maxRecDepth 100000 in
set_option maxHeartbeats 4000000 in
theorem copyGroup_any (s : Gr) (a0 a1 : Option Addr) (c0 c1 : Nat) (w : World) (hs : GrR w s a0 a1) (hls : s.steps.length ≤ 1000000) (hlr : s.reps.length ≤ 1000000) (h0 : 0 < s.reps.length) (hlog : ∀ (i : Nat) (p : Rp), s.reps[i]? = some p → p.log.length ≤ 1000) :
    Calls Tryd.prog 47 #[grV s a0 c0 a1 c1] w fun r w' => ∃ b0 d0 R c1' qs, r = .returned (grV s b0 d0 (some ⟨R, 0, none⟩) c1') ∧ Gow w' w.heap.size s b0 R qs ∧ Below w.heap.size w w' := by
  obtain ⟨x0, hx0⟩ : ∃ u, ((w.alloc (.cells #[.int .i64 s.epoch, .int .i64 s.leader, .slice a0 s.steps.length c0, .int .i64 s.high, .slice a1 s.reps.length c1] 25)).alloc (.cells #[.int .i64 0, .int .i64 0, .slice none 0 0, .int .i64 0, .slice none 0 0] 25)) = u := ⟨_, rfl⟩
  have b0 : Below w.heap.size w x0 := by rw [← hx0]; exact ((Below.refl _ _).alloc (Nat.le_refl _) _).alloc (by simp) _
  have hz0 : x0.heap.size = w.heap.size + 2 := by rw [← hx0]; simp
  have g0 : x0.cell? ⟨w.heap.size, 0, none⟩ = some (.int .i64 s.epoch) := by rw [← hx0]; simp [go_sem]
  have g1 : x0.cell? ⟨w.heap.size, 1, none⟩ = some (.int .i64 s.leader) := by rw [← hx0]; simp [go_sem]
  have g2 : x0.cell? ⟨w.heap.size, 2, none⟩ = some (.slice a0 s.steps.length c0) := by rw [← hx0]; simp [go_sem]
  have g3 : x0.cell? ⟨w.heap.size, 3, none⟩ = some (.int .i64 s.high) := by rw [← hx0]; simp [go_sem]
  have g4 : x0.cell? ⟨w.heap.size, 4, none⟩ = some (.slice a1 s.reps.length c1) := by rw [← hx0]; simp [go_sem]
  have z0 : x0.cell? ⟨w.heap.size + 1, 0, none⟩ = some (.int .i64 0) := by rw [← hx0]; simp [go_sem]
  have z1 : x0.cell? ⟨w.heap.size + 1, 1, none⟩ = some (.int .i64 0) := by rw [← hx0]; simp [go_sem]
  have z2 : x0.cell? ⟨w.heap.size + 1, 2, none⟩ = some (.slice none 0 0) := by rw [← hx0]; simp [go_sem]
  have z3 : x0.cell? ⟨w.heap.size + 1, 3, none⟩ = some (.int .i64 0) := by rw [← hx0]; simp [go_sem]
  have z4 : x0.cell? ⟨w.heap.size + 1, 4, none⟩ = some (.slice none 0 0) := by rw [← hx0]; simp [go_sem]
  have gf : ∀ o, x0.frozen? ⟨w.heap.size, o, none⟩ = false := fun o => by rw [← hx0]; simp [go_sem]
  have zf : ∀ o, x0.frozen? ⟨w.heap.size + 1, o, none⟩ = false := fun o => by rw [← hx0]; simp [go_sem]
  go_enter Tryd.func47, Tryd.ntmps47
  go_wp2_with fail
  try rw [hx0]
  clear hx0
  refine (ownListI_any _ _ s.steps _ (hs.steps.below b0) hls).mono ?_
  rintro r w1 ⟨b0', d0', rfl, hI1, hR1, hB1⟩
  replace g0 := celB hB1 g0
  replace g1 := celB hB1 g1
  replace g2 := celB hB1 g2
  replace g3 := celB hB1 g3
  replace g4 := celB hB1 g4
  replace z0 := celB hB1 z0
  replace z1 := celB hB1 z1
  replace z2 := celB hB1 z2
  replace z3 := celB hB1 z3
  replace z4 := celB hB1 z4
  replace gf := fun o => frzB (o := o) hB1 (by omega) (gf o)
  replace zf := fun o => frzB (o := o) hB1 (by omega) (zf o)
  obtain ⟨x1, hx1⟩ : ∃ u, w1.setCell ⟨w.heap.size, 2, none⟩ (.slice b0' s.steps.length d0') = u := ⟨_, rfl⟩
  have b1 : Below w.heap.size w x1 := by rw [← hx1]; exact (stGr b0 hB1).setCell (Nat.le_refl _) _
  have hz1 : x1.heap.size = w1.heap.size := by rw [← hx1]; simp
  have hzz := hB1.size
  have hI1' : Ints x1 b0' s.steps := by rw [← hx1]; exact hI1.of_block fun b hi => Below.heap_setCell _ ⟨w.heap.size, 2, none⟩ _ b (by have := hR1.lt hi; simp; omega)
  have hR1' : RowI x1 x0.heap.size b0' s.steps.length := by rw [← hx1]; exact hR1.of_block fun b hi => Below.heap_setCell _ ⟨w.heap.size, 2, none⟩ _ b (by have := hR1.lt hi; simp; omega)
  have g0' : x1.cell? ⟨w.heap.size, 0, none⟩ = some (.int .i64 s.epoch) := by rw [← hx1]; simp [go_sem, g0]
  have g1' : x1.cell? ⟨w.heap.size, 1, none⟩ = some (.int .i64 s.leader) := by rw [← hx1]; simp [go_sem, g1]
  have g2' : x1.cell? ⟨w.heap.size, 2, none⟩ = some (.slice b0' s.steps.length d0') := by rw [← hx1]; simp [go_sem, g2]
  have g3' : x1.cell? ⟨w.heap.size, 3, none⟩ = some (.int .i64 s.high) := by rw [← hx1]; simp [go_sem, g3]
  have g4' : x1.cell? ⟨w.heap.size, 4, none⟩ = some (.slice a1 s.reps.length c1) := by rw [← hx1]; simp [go_sem, g4]
  replace z0 : x1.cell? ⟨w.heap.size + 1, 0, none⟩ = some (.int .i64 0) := by rw [← hx1]; simp [go_sem, z0]
  replace z1 : x1.cell? ⟨w.heap.size + 1, 1, none⟩ = some (.int .i64 0) := by rw [← hx1]; simp [go_sem, z1]
  replace z2 : x1.cell? ⟨w.heap.size + 1, 2, none⟩ = some (.slice none 0 0) := by rw [← hx1]; simp [go_sem, z2]
  replace z3 : x1.cell? ⟨w.heap.size + 1, 3, none⟩ = some (.int .i64 0) := by rw [← hx1]; simp [go_sem, z3]
  replace z4 : x1.cell? ⟨w.heap.size + 1, 4, none⟩ = some (.slice none 0 0) := by rw [← hx1]; simp [go_sem, z4]
  replace gf : ∀ o, x1.frozen? ⟨w.heap.size, o, none⟩ = false := fun o => by rw [← hx1]; simp [go_sem, gf]
  replace zf : ∀ o, x1.frozen? ⟨w.heap.size + 1, o, none⟩ = false := fun o => by rw [← hx1]; simp [go_sem, zf]
  have gfw : w1.frozen? ⟨w.heap.size, 2, none⟩ = false := by have := gf 2; rw [← hx1] at this; simpa [go_sem] using this
  have HNB : Hid (∀ K o, a1 = some ⟨K, o, none⟩ → ∀ (i : Nat) (p : Rp), s.reps[i]? = some p → ∀ r0 k0, x1.cell? ⟨K, o + i * 3, none⟩ = some (.slice r0 p.log.length k0) → ∀ b, InI r0 p.log.length b → b < w.heap.size) := by
    intro K o ea i p hp r0 k0 hc b hi
    obtain ⟨K', o', ea', r', k', d0, -, -, hw, -⟩ := hs.reps i p hp
    rw [ea] at ea'
    simp only [Option.some.injEq, Addr.mk.injEq, and_true] at ea'
    obtain ⟨rfl, rfl⟩ := ea'
    have := celB b1 d0
    rw [hc] at this
    simp only [Option.some.injEq, Value.slice.injEq, true_and] at this
    obtain ⟨rfl, rfl⟩ := this
    exact rws_lt hw hi
  go_wp2_with fail
  try rw [hx1]
  clear hx1 hI1 hR1 hB1 g0 g1 g2 g3 g4 gfw
  refine (ownListQ_any _ _ w.heap.size s.reps _ (hs.reps.below b1) h0 hlr HNB.out).mono ?_
  rintro r w2 ⟨R, c1', qs0, rfl, hq0, hO0, hold, hB2⟩
  replace g0' := celB hB2 g0'
  replace g1' := celB hB2 g1'
  replace g2' := celB hB2 g2'
  replace g3' := celB hB2 g3'
  replace g4' := celB hB2 g4'
  replace z0 := celB hB2 z0
  replace z1 := celB hB2 z1
  replace z2 := celB hB2 z2
  replace z3 := celB hB2 z3
  replace z4 := celB hB2 z4
  replace gf := fun o => frzB (o := o) hB2 (by omega) (gf o)
  replace zf := fun o => frzB (o := o) hB2 (by omega) (zf o)
  replace hI1' := hI1'.below hB2
  have hR1s := hR1'
  replace hR1' := hR1'.below hB2
  have hRz := hO0.hB
  have hRlt := hO0.size
  have hIlt : ∀ b, InI b0' s.steps.length b → b < x1.heap.size := fun b hi => (hR1s.lt hi).2
  obtain ⟨x2, hx2⟩ : ∃ u, w2.setCell ⟨w.heap.size, 4, none⟩ (.slice (some ⟨R, 0, none⟩) s.reps.length c1') = u := ⟨_, rfl⟩
  have b2 : Below w.heap.size w x2 := by rw [← hx2]; exact (stGr b1 hB2).setCell (Nat.le_refl _) _
  have hz2 : x2.heap.size = w2.heap.size := by rw [← hx2]; simp
  have hzz2 := hB2.size
  have hI2 : Ints x2 b0' s.steps := by rw [← hx2]; exact hI1'.of_block fun b hi => Below.heap_setCell _ ⟨w.heap.size, 4, none⟩ _ b (by have := hR1'.lt hi; simp; omega)
  have hR2 : RowI x2 x0.heap.size b0' s.steps.length := by rw [← hx2]; exact hR1'.of_block fun b hi => Below.heap_setCell _ ⟨w.heap.size, 4, none⟩ _ b (by have := hR1'.lt hi; simp; omega)
  have hnb : ∀ (i : Nat) (q : Rq), qs0[i]? = some q → ¬ InI q.a q.p.log.length w.heap.size := fun i q hq hi => by have := hold i q hq _ hi; omega
  have hO2 : Ogk x2 x0.heap.size R 0 qs0 := by
    rw [← hx2]
    refine (hO0.mono (by omega)).of_block (by simp) fun b hlt hi => Below.heap_setCell _ ⟨w.heap.size, 4, none⟩ _ b ?_
    rcases hi with rfl | ⟨i, q, hq, hi⟩
    · simp; omega
    · intro e
      subst e
      exact hnb i q hq hi
  have k0 : x2.cell? ⟨w.heap.size, 0, none⟩ = some (.int .i64 s.epoch) := by rw [← hx2]; simp [go_sem, g0']
  have k1 : x2.cell? ⟨w.heap.size, 1, none⟩ = some (.int .i64 s.leader) := by rw [← hx2]; simp [go_sem, g1']
  have k2 : x2.cell? ⟨w.heap.size, 2, none⟩ = some (.slice b0' s.steps.length d0') := by rw [← hx2]; simp [go_sem, g2']
  have k3 : x2.cell? ⟨w.heap.size, 3, none⟩ = some (.int .i64 s.high) := by rw [← hx2]; simp [go_sem, g3']
  have k4 : x2.cell? ⟨w.heap.size, 4, none⟩ = some (.slice (some ⟨R, 0, none⟩) s.reps.length c1') := by rw [← hx2]; simp [go_sem, g4']
  replace z0 : x2.cell? ⟨w.heap.size + 1, 0, none⟩ = some (.int .i64 0) := by rw [← hx2]; simp [go_sem, z0]
  replace z1 : x2.cell? ⟨w.heap.size + 1, 1, none⟩ = some (.int .i64 0) := by rw [← hx2]; simp [go_sem, z1]
  replace z2 : x2.cell? ⟨w.heap.size + 1, 2, none⟩ = some (.slice none 0 0) := by rw [← hx2]; simp [go_sem, z2]
  replace z3 : x2.cell? ⟨w.heap.size + 1, 3, none⟩ = some (.int .i64 0) := by rw [← hx2]; simp [go_sem, z3]
  replace z4 : x2.cell? ⟨w.heap.size + 1, 4, none⟩ = some (.slice none 0 0) := by rw [← hx2]; simp [go_sem, z4]
  have gf2 : ∀ o, x2.frozen? ⟨w.heap.size, o, none⟩ = false := fun o => by rw [← hx2]; simp [go_sem, gf]
  replace zf : ∀ o, x2.frozen? ⟨w.heap.size + 1, o, none⟩ = false := fun o => by rw [← hx2]; simp [go_sem, zf]
  go_wp2_with fail
  try rw [hx2]
  clear hx2 gf g0' g1' g2' g3' g4' hI1' hR1' hO0 hB2 hR1s
  go_loopw [16] (fun i wr => ∃ (k : Nat) (qs : List Rq), k ≤ s.reps.length ∧ i = .int .i64 k ∧ qs.map Rq.p = s.reps ∧ Ogk wr x0.heap.size R k qs ∧ Below x0.heap.size x2 wr ∧ ∀ b, b < x2.heap.size → b ≠ R → wr.heap[b]? = x2.heap[b]?) (fun i _ => s.reps.length - (intOf i).toNat)
  case atStart => exact ⟨0, qs0, Nat.zero_le _, rfl, hq0, hO2, Below.refl _ _, fun _ _ _ => rfl⟩
  case round =>
    clear hO2 hq0 hold hnb
    obtain ⟨k, qs, hk, rfl, hqs, hog, hB, hoth⟩ := hrel
    have hzr := hB.size
    have hRr := hog.size
    have cel : ∀ b o v, x2.cell? ⟨b, o, none⟩ = some v → b < x0.heap.size → wr.cell? ⟨b, o, none⟩ = some v := fun b o v h hlt => (hB.cell (p := ⟨b, o, none⟩) hlt).trans h
    have r0 := cel _ 0 _ k0 (by omega)
    have r1 := cel _ 1 _ k1 (by omega)
    have r2 := cel _ 2 _ k2 (by omega)
    have r3 := cel _ 3 _ k3 (by omega)
    have r4 := cel _ 4 _ k4 (by omega)
    have y0 := cel _ 0 _ z0 (by omega)
    have y1 := cel _ 1 _ z1 (by omega)
    have y2 := cel _ 2 _ z2 (by omega)
    have y3 := cel _ 3 _ z3 (by omega)
    have y4 := cel _ 4 _ z4 (by omega)
    have rf : ∀ o, wr.frozen? ⟨w.heap.size, o, none⟩ = false := fun o => (hB.frozen (p := ⟨w.heap.size, o, none⟩) (by show w.heap.size < _; omega)).trans (gf2 o)
    have yf : ∀ o, wr.frozen? ⟨w.heap.size + 1, o, none⟩ = false := fun o => (hB.frozen (p := ⟨w.heap.size + 1, o, none⟩) (by show w.heap.size + 1 < _; omega)).trans (zf o)
    have hqn : qs.length = s.reps.length := by rw [← hqs, List.length_map]
    by_cases hlt : k < s.reps.length
    · obtain ⟨q, hq⟩ : ∃ q, qs[k]? = some q := ⟨_, List.getElem?_eq_getElem (by omega)⟩
      obtain ⟨hlq, hmq⟩ := hog.lie k q hq
      have hl30 := hlog k q.p (by rw [← hqs, List.getElem?_map, hq]; rfl)
      obtain ⟨m, f, hm, hrow, hp⟩ := hog.row
      obtain ⟨p0, p1, p2⟩ := hp k q hq
      have e0 := hrow.cell (i := k * 3) (by omega)
      have e1 := hrow.cell (i := k * 3 + 1) (by omega)
      have e2 := hrow.cell (i := k * 3 + 2) (by omega)
      rw [p0] at e0
      rw [p1] at e1
      rw [p2] at e2
      have hki : (k : Int) < (s.reps.length : Int) := by omega
      have HQN : Hid (qs.length = s.reps.length) := hqn
      have HQS : Hid (qs.map Rq.p = s.reps) := hqs
      have HOG : Hid (Ogk wr x0.heap.size R k qs) := hog
      clear hm hrow hp p0 p1 p2 hqn hqs cel
      obtain ⟨u2, hu2⟩ : ∃ u, (wr.alloc (.cells #[.slice q.a q.p.log.length q.c, .int .i64 q.p.epoch, .int .i64 q.p.known] 81)) = u := ⟨_, rfl⟩
      have BU : Below wr.heap.size wr u2.drew := by rw [← hu2]; exact (alGr _ _).drew
      have kk : u2.drew.cell? ⟨w.heap.size, 4, none⟩ = some (.slice (some ⟨R, 0, none⟩) s.reps.length c1') ∧ u2.drew.cell? ⟨wr.heap.size, 0, none⟩ = some (.slice q.a q.p.log.length q.c) := ⟨celB BU r4, by rw [← hu2]; simp [go_sem]⟩
      go_wp2_with fail
      try rw [hu2]
      refine wp_region_noPanic ?_
      refine wp_region_held_drew (S := fun w' => w'.cell? ⟨w.heap.size, 4, none⟩ = some (.slice (some ⟨R, 0, none⟩) s.reps.length c1') ∧ w'.cell? ⟨wr.heap.size, 0, none⟩ = some (.slice q.a q.p.log.length q.c)) (by kernel_rfl) kk (fun hH => ?_)
      refine wpAnyH_take (i := 0) (oi := ⟨_, _, _, _, _, _⟩) (v := ?vc0) rfl (by kernel_rfl) (by kernel_rfl) (by kernel_rfl) (fun _ _ _ h => h) (Or.inl ⟨by rfl, ?yc0⟩) (by assumption) ?rc0
      case yc0 => intro w hSw; (try dsimp only at hSw); go_simp; try with_reducible rfl
      try simp only [Act.put, List.setIfInBounds_toArray, List.set_cons_zero, List.set_cons_succ]
      refine wpAnyH_take (i := 1) (oi := ⟨_, _, _, _, _, _⟩) (v := ?vc1) rfl (by kernel_rfl) (by kernel_rfl) (by kernel_rfl) (fun _ _ _ h => h) (Or.inl ⟨by rfl, ?yc1⟩) (by assumption) ?rc1
      case yc1 => intro w hSw; (try dsimp only at hSw); go_simp; try with_reducible rfl
      try simp only [Act.put, List.setIfInBounds_toArray, List.set_cons_zero, List.set_cons_succ]
      refine wpAnyH_take (i := 2) (oi := ⟨_, _, _, _, _, _⟩) (v := ?vc2) rfl (by kernel_rfl) (by kernel_rfl) (by kernel_rfl) (fun _ _ _ h => h) (Or.inl ⟨by rfl, ?yc2⟩) (by assumption) ?rc2
      case yc2 => intro w hSw; (try dsimp only at hSw); go_simp; try with_reducible rfl
      try simp only [Act.put, List.setIfInBounds_toArray, List.set_cons_zero, List.set_cons_succ]
      refine wpAnyH_take (i := 3) (oi := ⟨_, _, _, _, _, _⟩) (v := ?vc3) rfl (by kernel_rfl) (by kernel_rfl) (by kernel_rfl) (fun _ _ _ h => h) (Or.inl ⟨by rfl, ?yc3⟩) (by assumption) ?rc3
      case yc3 => intro w hSw; (try dsimp only at hSw); go_simp; try with_reducible rfl
      try simp only [Act.put, List.setIfInBounds_toArray, List.set_cons_zero, List.set_cons_succ]
      refine wpAnyH_take (i := 4) (oi := ⟨_, _, _, _, _, _⟩) (v := ?vc4) rfl (by kernel_rfl) (by kernel_rfl) (by kernel_rfl) (fun _ _ _ h => h) (Or.inl ⟨by rfl, ?yc4⟩) (by assumption) ?rc4
      case yc4 => intro w hSw; (try dsimp only at hSw); go_simp; try with_reducible rfl
      try simp only [Act.put, List.setIfInBounds_toArray, List.set_cons_zero, List.set_cons_succ]
      refine wpAnyH_ready (rs := [5]) (by kernel_rfl) (by simp) ?_
      refine AllReadyH.cons (o := ⟨_, _, _, _, _, _⟩) rfl (fun KK hK => ?_) AllReadyH.nil
      go_simp
      refine (ownListW_any _ _ q.p.log _ (hlq.below BU) (by omega)).mono ?_
      rintro r w5 ⟨a', k', rfl, hl5, hr5, hc5, hB5⟩
      have kk5 : w5.cell? ⟨w.heap.size, 4, none⟩ = some (.slice (some ⟨R, 0, none⟩) s.reps.length c1') ∧ w5.cell? ⟨wr.heap.size, 0, none⟩ = some (.slice q.a q.p.log.length q.c) := ⟨celB hB5 kk.1, celB hB5 kk.2⟩
      have B5 : Below wr.heap.size wr w5 := stGr BU hB5
      have O5 := hog.below B5
      obtain ⟨m5, f5, hm5, hrow5, -⟩ := O5.row
      have hcR : w5.cell? ⟨R, k * 3, none⟩ = some (f5 (k * 3)) := hrow5.cell (by have := HQN.out; omega)
      have hfR : ∀ o, w5.frozen? ⟨R, o, none⟩ = false := hrow5.frozen
      clear hB5
      go_wp2_with fail
      refine hK.out _ _ kk5 (fun hH5 => ?_)
      clear hK KK hH
      try simp only [Act.put, List.setIfInBounds_toArray, List.set_cons_zero, List.set_cons_succ]
      refine wpAnyH_take (i := 6) (oi := ⟨_, _, _, _, _, _⟩) (v := ?vc6) rfl (by kernel_rfl) (by kernel_rfl) (by kernel_rfl) (fun _ _ _ h => h) (Or.inl ⟨by rfl, ?yc6⟩) (by assumption) ?rc6
      case yc6 => intro w hSw; (try dsimp only at hSw); go_simp; try with_reducible rfl
      try simp only [Act.put, List.setIfInBounds_toArray, List.set_cons_zero, List.set_cons_succ]
      refine wpAnyH_take (i := 7) (oi := ⟨_, _, _, _, _, _⟩) (v := ?vc7) rfl (by kernel_rfl) (by kernel_rfl) (by kernel_rfl) (fun _ _ _ h => h) (Or.inl ⟨by rfl, ?yc7⟩) (by assumption) ?rc7
      case yc7 => intro w hSw; (try dsimp only at hSw); go_simp; try with_reducible rfl
      try simp only [Act.put, List.setIfInBounds_toArray, List.set_cons_zero, List.set_cons_succ]
      refine wpAnyH_ready (rs := [8]) (by kernel_rfl) (by simp) ?_
      refine AllReadyH.cons (o := ⟨_, _, _, _, _, _⟩) rfl (fun KK hK => ?_) AllReadyH.nil
      skip
      have kk6 : (w5.setCell ⟨R, k * 3, none⟩ (.slice a' q.p.log.length k')).cell? ⟨w.heap.size, 4, none⟩ = some (.slice (some ⟨R, 0, none⟩) s.reps.length c1') ∧ (w5.setCell ⟨R, k * 3, none⟩ (.slice a' q.p.log.length k')).cell? ⟨wr.heap.size, 0, none⟩ = some (.slice q.a q.p.log.length q.c) := by
        exact ⟨by rw [World.cell?_setCell_other _ _ _ _ (by first | (simp; done) | (simp; omega))]; exact kk5.1, by rw [World.cell?_setCell_other _ _ _ _ (by first | (simp; done) | (simp; omega))]; exact kk5.2⟩
      go_simp
      refine hK.out _ _ kk6 (fun hH8 => ?_)
      clear hK KK hH5
      try simp only [Act.put, List.setIfInBounds_toArray, List.set_cons_zero, List.set_cons_succ]
      refine wpAnyH_done (by kernel_rfl) (NoPanic.normal ?_) _
      have hz5 := B5.size
      have HN : Hid (Ogk (w5.setCell ⟨R, k * 3, none⟩ (.slice a' q.p.log.length k')) x0.heap.size R (k + 1) (qs.set k ⟨q.p, a', k'⟩)) := by
        refine O5.set1 q ⟨q.p, a', k'⟩ hq rfl rfl (fun i h1 h2 => by omega) hl5 hmq hc5 (hr5.mono (by have := BU.size; omega)) (fun b hi => by have := hr5.lt hi; have := BU.size; omega) (fun b hi i p hp hne hik hi' => ?_)
        have h1 := (hr5.lt hi).1
        have h2 := HOG.out.lt i p b hp hi'
        have := BU.size
        omega
      have HM : Hid ((qs.set k ⟨q.p, a', k'⟩).map Rq.p = s.reps) := by
        show _ = _
        rw [List.map_set, HQS.out]
        have : s.reps[k]? = some q.p := by rw [← HQS.out, List.getElem?_map, hq]; rfl
        rw [← HQS.out, show q.p = (qs.map Rq.p)[k]'(by rw [HQS.out]; exact hlt) by simp [List.getElem_map, (List.getElem?_eq_some_iff.1 hq).2], List.set_getElem_self]
      have HBn : Hid (Below x0.heap.size x2 (w5.setCell ⟨R, k * 3, none⟩ (.slice a' q.p.log.length k'))) := (hB.trans (B5.mono (by omega))).setCell (by show _ ≤ R; omega) _
      have HOt : Hid (∀ b, b < x2.heap.size → b ≠ R → (w5.setCell ⟨R, k * 3, none⟩ (.slice a' q.p.log.length k')).heap[b]? = x2.heap[b]?) := fun b hb hne => by rw [Below.heap_setCell _ ⟨R, _, none⟩ _ b (fun e => hne e), B5.block b (by omega), hoth b hb hne]
      clear O5 hrow5 hcR hfR kk kk5 kk6 hu2 BU hl5 hr5 hog HOG
      go_wp2
      go_roundw
      case rel => exact ⟨k + 1, _, by omega, by go_num, HM.out, HN.out, HBn.out, HOt.out⟩
      case measure => simp [intOf]; omega
    · obtain rfl : k = s.reps.length := by omega
      have HG : Hid (Gow wr x0.heap.size s b0' R qs) := ⟨hqs, hI2.of_block fun b hi => hoth b (by have := hR2.lt hi; omega) (by have := hIlt b hi; omega), hR2.of_block fun b hi => hoth b (by have := hR2.lt hi; omega) (by have := hIlt b hi; omega), fun b hi => by have := hIlt b hi; omega, by rw [hqn]; exact hog⟩
      have BW : Below w.heap.size w wr := b2.trans (hB.mono (by omega))
      clear hog hoth cel
      go_wp2
      refine bodyPost_ret (v := grV s b0' d0' (some ⟨R, 0, none⟩) c1') (by simp [results, Tryd.results47, go_sem, y0, y1, y2, y3, y4]) rfl ⟨b0', d0', R, c1', qs, rfl, ?_, ?_⟩
      · exact ((((((HG.out.setO (by omega) _ _).setO (by omega) _ _).setO (by omega) _ _).setO (by omega) _ _).setO (by omega) _ _)).mono (by omega)
      · exact ((((BW.setCell (by simp) _).setCell (by simp) _).setCell (by simp) _).setCell (by simp) _).setCell (by simp) _

end Go.Proofs.YtkhbgdnhkaeamaaDoor

namespace Go.Proofs.YtkhbgdnhkaeamaaDoor
open Go.RowKit

/-- The row is v, kept in the box S; the logs lie apart; of what was there in x only the box has changed. -/
structure OwS (S : Nat) (x wr : World) (v : Value) (qs : List Rq) : Prop where
  own : wr.ownsRow x.heap.size 81 3 v qs.length (qs.flatMap rqC)
  lie : ∀ (i : Nat) (q : Rq), qs[i]? = some q → Rws wr q.a q.p.log ∧ q.p.log.length ≤ maxLen ∧ RowRw wr x.heap.size q.a q.p.log.length ∧ q.p.log.length ≤ q.c
  ap : ∀ (i : Nat) (q : Rq) (b : Nat), qs[i]? = some q → InI q.a q.p.log.length b → some b ≠ v.ownBlock
  dj : ∀ (i j : Nat) (q q' : Rq) (b : Nat), qs[i]? = some q → qs[j]? = some q' → i ≠ j → InI q.a q.p.log.length b → ¬ InI q'.a q'.p.log.length b
  oth : ∀ b, b < x.heap.size → b ≠ S → wr.heap[b]? = x.heap[b]?
  size : x.heap.size ≤ wr.heap.size
  bel : ∀ B, B ≤ S → Below B x wr
  cel : ∀ o u, o ≠ 4 → x.cell? ⟨S, o, none⟩ = some u → wr.cell? ⟨S, o, none⟩ = some u
  c4 : wr.cell? ⟨S, 4, none⟩ = some v
  fr : ∀ o, wr.frozen? ⟨S, o, none⟩ = false

theorem OwS.below {S : Nat} {x wr u : World} {v : Value} {qs : List Rq} (h : OwS S x wr v qs) (hS : S < x.heap.size) (hb : Below wr.heap.size wr u) : OwS S x u v qs := by
  have hz := h.size
  refine ⟨ownsZ_below h.own hb, fun i q hq => ?_, h.ap, h.dj, fun b h1 h2 => (hb.block b (by omega)).trans (h.oth b h1 h2), by have := hb.size; omega, fun B hB => (h.bel B hB).trans (hb.mono (by omega)), fun o y ho hc => celB hb (h.cel o y ho hc), celB hb h.c4, fun o => frzB hb (by omega) (h.fr o)⟩
  obtain ⟨h1, h2, h3, h4⟩ := h.lie i q hq
  exact ⟨h1.below hb, h2, h3.below hb, h4⟩

/-- One more, its log new since wr. -/
theorem OwS.step {S : Nat} {x wr u w5 : World} {v v' : Value} {qs : List Rq} {q : Rq} (h : OwS S x wr v qs) (hS : S < x.heap.size) (hb : Below wr.heap.size wr u) (hl : Rws u q.a q.p.log) (hm : q.p.log.length ≤ maxLen) (hr : RowRw u wr.heap.size q.a q.p.log.length) (hc : q.p.log.length ≤ q.c)
    (hown : w5.ownsRow x.heap.size 81 3 v' (qs.length + 1) (qs.flatMap rqC ++ rqC q)) (hgrow : u.grownBy w5 v.ownBlock) (hnew : ∀ b, v'.ownBlock = some b → v.ownBlock = some b ∨ u.heap.size ≤ b) :
    OwS S x (w5.setCell ⟨S, 4, none⟩ v') v' (qs ++ [q]) := by
  have hz := h.size
  have hzu := hb.size
  have hz5 := hgrow.size
  have hu := h.below hS hb
  have hvb : ∀ b, v.ownBlock = some b → x.heap.size ≤ b ∧ b < wr.heap.size := fun b e => h.own.lt b e
  have gt : ∀ (i : Nat) (p : Rq), (qs ++ [q])[i]? = some p → (i < qs.length ∧ qs[i]? = some p) ∨ (i = qs.length ∧ p = q) := fun i p hi => by
    by_cases e : i < qs.length
    · rw [List.getElem?_append_left e] at hi; exact .inl ⟨e, hi⟩
    · rw [List.getElem?_append_right (by omega)] at hi
      have : i - qs.length = 0 := by
        have := (List.getElem?_eq_some_iff.1 hi).1
        simp at this; omega
      rw [this] at hi
      simp at hi
      exact .inr ⟨by omega, hi.symm⟩
  have oldlt : ∀ (i : Nat) (p : Rq) (b : Nat), qs[i]? = some p → InI p.a p.p.log.length b → x.heap.size ≤ b ∧ b < wr.heap.size := fun i p b hp hi => (h.lie i p hp).2.2.1.lt hi
  have newlt : ∀ b, InI q.a q.p.log.length b → wr.heap.size ≤ b ∧ b < u.heap.size := fun b hi => hr.lt hi
  have same : ∀ b, b < u.heap.size → some b ≠ v.ownBlock → b ≠ S → (w5.setCell ⟨S, 4, none⟩ v').heap[b]? = u.heap[b]? := fun b h1 h2 h3 => by
    rw [Below.heap_setCell _ ⟨S, 4, none⟩ _ b (fun e => h3 e)]
    exact hgrow.block b h1 h2
  have hSv : some S ≠ v.ownBlock := fun e => by have := hvb S e.symm; omega
  have cS : ∀ o y, u.cell? ⟨S, o, none⟩ = some y → w5.cell? ⟨S, o, none⟩ = some y := fun o y hy => (World.cell?_of_block (a := ⟨S, o, none⟩) (hgrow.block S (by omega) hSv)).trans hy
  refine ⟨?_, fun i p hi => ?_, fun i p b hi hb' => ?_, fun i j p p' b hi hj hne hb' => ?_, fun b h1 h2 => ?_, by simp; omega, fun B hB => ?_, fun o y ho hy => ?_, ?_, fun o => ?_⟩
  · rw [List.length_append, List.flatMap_append]
    simp only [List.length_singleton, List.flatMap_cons, List.flatMap_nil, List.append_nil]
    obtain ⟨o1, o2⟩ := hown
    refine ⟨o1, o2.imp id fun ⟨g', cap', cur, hv, hg, hh, r⟩ => ⟨g', cap', cur, hv, hg, ?_, r⟩⟩
    exact (Below.heap_setCell w5 ⟨S, 4, none⟩ _ g' (by simp; omega)).trans hh
  · rcases gt i p hi with ⟨hlt, hp⟩ | ⟨rfl, rfl⟩
    · obtain ⟨h1, h2, h3, h4⟩ := hu.lie i p hp
      have sm : ∀ b, InI p.a p.p.log.length b → (w5.setCell ⟨S, 4, none⟩ v').heap[b]? = u.heap[b]? := fun b hi' => by
        have := oldlt i p b hp hi'
        exact same b (by omega) (h.ap i p b hp hi') (by omega)
      exact ⟨h1.of_block sm, h2, h3.of_block sm, h4⟩
    · have sm : ∀ b, InI p.a p.p.log.length b → (w5.setCell ⟨S, 4, none⟩ v').heap[b]? = u.heap[b]? := fun b hi' => by
        have := newlt b hi'
        exact same b (by omega) (fun e => by have := hvb b e.symm; omega) (by omega)
      exact ⟨hl.of_block sm, hm, (hr.mono hz).of_block sm, hc⟩
  · intro e
    rcases hnew b e.symm with e' | e'
    · rcases gt i p hi with ⟨hlt, hp⟩ | ⟨rfl, rfl⟩
      · exact h.ap i p b hp hb' e'.symm
      · have := newlt b hb'; have := hvb b e'; omega
    · rcases gt i p hi with ⟨hlt, hp⟩ | ⟨rfl, rfl⟩
      · have := oldlt i p b hp hb'; omega
      · have := newlt b hb'; omega
  · rcases gt i p hi with ⟨hlt, hp⟩ | ⟨rfl, rfl⟩
    · rcases gt j p' hj with ⟨hlt', hp'⟩ | ⟨rfl, rfl⟩
      · exact h.dj i j p p' b hp hp' hne hb'
      · intro hb2
        have := oldlt i p b hp hb'; have := newlt b hb2; omega
    · rcases gt j p' hj with ⟨hlt', hp'⟩ | ⟨e, -⟩
      · intro hb2
        have := oldlt j p' b hp' hb2; have := newlt b hb'; omega
      · exact absurd e.symm hne
  · rw [same b (by omega) (fun e => by have := hvb b e.symm; omega) h2]
    exact hu.oth b h1 h2
  · exact ((hu.bel B hB).grown hgrow (by omega) (fun b e => by have := hvb b e; omega)).setCell hB _
  · rw [World.cell?_setCell_other _ _ _ _ (by first | (simp; done) | (simp; omega))]
    exact cS o y (hu.cel o y ho hy)
  · exact World.cell?_setCell_same _ _ _ (cS 4 v hu.c4)
  · have : w5.frozen? ⟨S, o, none⟩ = false := (World.frozen?_of_block (a := ⟨S, o, none⟩) (hgrow.block S (by omega) hSv)).trans (hu.fr o)
    simp [go_sem, this]

/-- All are gathered. -/
theorem OwS.done {S : Nat} {x wr : World} {R c : Nat} {qs : List Rq} (h : OwS S x wr (.slice (some ⟨R, 0, none⟩) qs.length c) qs) (h0 : 0 < qs.length) : Ogk wr x.heap.size R qs.length qs := by
  obtain ⟨g, cap, f, hv, hg, hn, hR, hx⟩ := row_of_ownsZ h.own h0
  simp only [Value.slice.injEq, Option.some.injEq, Addr.mk.injEq, and_true, true_and] at hv
  obtain ⟨rfl, rfl⟩ := hv
  refine ⟨⟨c * 3, f, Nat.mul_le_mul_right 3 hn, hR, fun i q hq => ?_⟩, hg, fun i q hq => ⟨(h.lie i q hq).1, (h.lie i q hq).2.1⟩, fun i q hq _ => (h.lie i q hq).2.2.1, fun i q b hq hi => ((h.lie i q hq).2.2.1.lt hi).2, fun i q b hq hi e => h.ap i q b hq hi (by rw [e]; simp [Value.ownBlock]), fun i j q q' b hq hq' hne _ _ hi => h.dj i j q q' b hq hq' hne hi, fun i q hq _ => (h.lie i q hq).2.2.2⟩
  have hlt := (List.getElem?_eq_some_iff.1 hq).1
  have cel : ∀ r, r < 3 → (rqC q)[r]? = some (f (i * 3 + r)) := fun r hr => by
    rw [← flatZ_get rqC_len qs i r q hq hr]
    exact hx _ (by omega)
  exact ⟨(Option.some.inj (cel 0 (by omega))).symm, (Option.some.inj (cel 1 (by omega))).symm, (Option.some.inj (cel 2 (by omega))).symm⟩

end Go.Proofs.YtkhbgdnhkaeamaaDoor
