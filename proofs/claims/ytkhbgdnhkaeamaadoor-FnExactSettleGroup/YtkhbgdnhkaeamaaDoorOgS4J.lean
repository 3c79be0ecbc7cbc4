/-
  SettleGroup, the specification's side: who is in step, one more a round; a fetch of all.
  Groups, the specification's side: spec.SettleGroup. Made by mkogs4.py.
-/
import Derived.Test.YtkhbgdnhkaeamaaDoorOgS2
import Derived.Test.YtkhbgdnhkaeamaaDoorGrI6J
namespace Go.Proofs.YtkhbgdnhkaeamaaDoor
open Go.RowKit

theorem put_mi : ∀ k : Nat, k < 4 → ∀ x : Nat, x < 16 → putL (mi x) (k : Int) = mi (x ||| 2 ^ k) := by decide +kernel
theorem or_step : ∀ k : Nat, k < 4 → ∀ x : Nat, x < 16 → x ||| (2 ^ k - 1) ||| 2 ^ k = x ||| (2 ^ (k + 1) - 1) ∧ x ||| (2 ^ k - 1) < 16 := by decide +kernel
theorem or_all : ∀ n : Nat, n < 5 → ∀ x : Nat, x < 16 → (∀ i ∈ mem7 x, i < n) → mi (x ||| (2 ^ n - 1)) = iotaZ n := by decide +kernel
theorem lt16 : ∀ x, x < 128 → (∀ i ∈ mem7 x, i < 4) → x < 16 := by decide +kernel
theorem mi_msk {l : List Int} {many : Int} (hm : many ≤ 7) (h : riseB l many = true) : mi (msk l) = l := by
  unfold mi
  rw [(mem7_msk hm h).1, List.map_map]
  conv => rhs; rw [← List.map_id l]
  apply List.map_congr_left
  intro z hz
  have := rise_mem h hz
  simp only [Function.comp_apply, id_eq]
  omega

/-- Those in step behind k rounds. -/
def stps (s : Gr) (k : Nat) : List Int := mi (msk s.steps ||| (2 ^ k - 1))
theorem msk16 {s : Gr} (hn : s.reps.length ≤ 4) (h : riseB s.steps s.reps.length = true) : msk s.steps < 16 ∧ ∀ i ∈ mem7 (msk s.steps), i < s.reps.length := by
  have hm : ∀ i ∈ mem7 (msk s.steps), i < s.reps.length := fun i hi => by
    have := rise_mem h ((mem_msk (by omega) h).1 hi)
    omega
  exact ⟨lt16 _ (mem7_msk (by omega) h).2 (fun i hi => by have := hm i hi; omega), hm⟩
theorem stps_zero {s : Gr} (hn : s.reps.length ≤ 4) (h : riseB s.steps s.reps.length = true) : stps s 0 = s.steps := by
  unfold stps
  rw [show msk s.steps ||| (2 ^ 0 - 1) = msk s.steps by simp]
  exact mi_msk (by omega) h
theorem stps_succ {s : Gr} {k : Nat} (hn : s.reps.length ≤ 4) (h : riseB s.steps s.reps.length = true) (hk : k < s.reps.length) : putL (stps s k) (k : Int) = stps s (k + 1) := by
  have hx := (msk16 hn h).1
  unfold stps
  rw [put_mi k (by omega) _ (or_step k (by omega) _ hx).2, (or_step k (by omega) _ hx).1]
theorem stps_done {s : Gr} (hn : s.reps.length ≤ 4) (h : riseB s.steps s.reps.length = true) : stps s s.reps.length = iotaZ s.reps.length := by
  have hx := msk16 hn h
  exact or_all _ (by omega) _ hx.1 hx.2
theorem stps_len (s : Gr) (k : Nat) : (stps s k).length ≤ 7 := mi_len _

def stH (s : Gr) (lg : List Rw) (f k j : Nat) : Gr := ⟨s.epoch, s.leader, stps s j, s.high, stR s lg f k⟩
theorem stH_val (s : Gr) (lg : List Rw) (f k j : Nat) (a0 a1 : Option Addr) (c0 c1 : Nat) : grV (stH s lg f k j) a0 c0 a1 c1 = .agg #[.int .i64 s.epoch, .int .i64 s.leader, .slice a0 (stps s j).length c0, .int .i64 s.high, .slice a1 s.reps.length c1] := by simp [stH, stR_len]
theorem stH_put {s : Gr} {lg : List Rw} {f k j : Nat} (hk : k < s.reps.length) : upN (stH s lg f k j) k lg = stH s lg f (k + 1) j := by
  unfold upN putR stH
  have := stR_step (lg := lg) (f := f) hk
  simp only [rpN] at this ⊢
  rw [this]
theorem stH_skip (s : Gr) (lg : List Rw) (f j : Nat) : stH s lg f f j = stH s lg f (f + 1) j := by unfold stH; rw [stR_skip]
theorem stH_zero {s : Gr} (lg : List Rw) (f : Nat) (hn : s.reps.length ≤ 4) (h : riseB s.steps s.reps.length = true) : upN s f lg = stH s lg f 0 0 := by
  unfold upN putR stH
  rw [← stR_zero, stps_zero hn h]; rfl

/-- Lists of numbers and rows of replicas lie in blocks of their own kinds. -/
theorem rowI_ne {w : World} {B B' R k n b : Nat} {a : Option Addr} {qs : List Rq} (h : RowI w B a n) (ho : Ogk w B' R k qs) (hi : InI a n b) : b ≠ R := by
  obtain ⟨hn, o, s, e⟩ := hi
  rcases h with h | ⟨g, m, f, ea, -, -, hr⟩
  · omega
  · rw [ea] at e
    simp only [Option.some.injEq, Addr.mk.injEq] at e
    obtain ⟨rfl, -, -⟩ := e
    rintro rfl
    obtain ⟨m', f', -, hr', -⟩ := ho.row
    obtain ⟨cur, h1, -⟩ := hr
    obtain ⟨cur', h2, -⟩ := hr'
    rw [h1] at h2
    simp only [Option.some.injEq, Obj.cells.injEq] at h2
    exact absurd h2.2.1 (by decide)

theorem owns_oth {w w' : World} {B : Nat} {t : TypeId} {size n : Nat} {v : Value} {xs : List Value} (h : w.ownsRow B t size v n xs) (hb : ∀ b, v.ownBlock = some b → w'.heap[b]? = w.heap[b]?) : w'.ownsRow B t size v n xs := by
  obtain ⟨o1, o2⟩ := h
  exact ⟨o1, o2.imp id fun ⟨g', cap', cur, hv, hg, hh, r⟩ => ⟨g', cap', cur, hv, hg, (hb g' (by rw [hv]; simp [Value.ownBlock])).trans hh, r⟩⟩

theorem fetchH (s : Gr) (lg : List Rw) (f k j B R : Nat) (qs : List Rq) (a0 : Option Addr) (c0 c1 : Nat) (w : World) (h : Gow w B (stH s lg f k j) a0 R qs) (hf : s.leader = f) (hfn : f < s.reps.length) (hk : k < s.reps.length) (hn : s.reps.length ≤ 4) (h30 : lg.length ≤ 30) :
    Calls Tryd.prog 54 #[.agg #[.int .i64 s.epoch, .int .i64 s.leader, .slice a0 (stps s j).length c0, .int .i64 s.high, .slice (some ⟨R, 0, none⟩) s.reps.length c1], .int .i64 (k : Int), .int .i64 30] w fun r w' => ∃ qs', r = .returned (.agg #[.int .i64 s.epoch, .int .i64 s.leader, .slice a0 (stps s j).length c0, .int .i64 s.high, .slice (some ⟨R, 0, none⟩) s.reps.length c1]) ∧ Gow w' B (stH s lg f (k + 1) j) a0 R qs' ∧ Below B w w' ∧ (∀ b, b < w.heap.size → b ≠ R → w'.heap[b]? = w.heap[b]?) ∧ ∀ b, b < w.heap.size → (∀ (i : Nat) (q : Rq), qs[i]? = some q → ¬ InI q.a q.p.log.length b) → ∀ (i : Nat) (q : Rq), qs'[i]? = some q → ¬ InI q.a q.p.log.length b := by
  obtain ⟨ql, hql, el⟩ : ∃ q, qs[f]? = some q ∧ q.p = rpN s lg := by
    refine h.at ?_
    show (stR s lg f k)[f]? = _
    rw [stR_get, List.getElem?_eq_getElem hfn]
    simp
  have ell : ql.p.log = lg := by rw [el]; rfl
  obtain ⟨q, hq⟩ : ∃ q, qs[k]? = some q := ⟨_, List.getElem?_eq_getElem (by rw [h.len]; show k < (stR s lg f k).length; rw [stR_len]; exact hk)⟩
  rw [← stH_val s lg f k j]
  refine (l11Fetch_any (stH s lg f k j) f B R k (sameN q.p.log ql.p.log) lg.length 30 ql q qs a0 c0 c1 w h hf hql hq (by show (stR s lg f k).length ≤ _; rw [stR_len]; omega) (by omega) (by omega) (by rw [ell]; omega) rfl (by rw [ell]; omega)).mono ?_
  rintro r w' ⟨a', k', hr, hG, hB, hO, hfr⟩
  rw [ell, List.take_length] at hr hG hfr
  rw [stH_put hk, stH_val] at hr
  rw [stH_put hk] at hG
  refine ⟨_, by rw [stH_val]; exact hr, hG, hB, hO, fun b hb hg i p hp hi => ?_⟩
  by_cases e : i = k
  · subst e
    rw [List.getElem?_set_self (by have := (List.getElem?_eq_some_iff.1 hp).1; rw [List.length_set] at this; exact this), Option.some.injEq] at hp
    subst hp
    have := hfr b hi
    omega
  · rw [List.getElem?_set_ne (fun g => e g.symm)] at hp
    exact hg i p hp hi

theorem leastH (s : Gr) (lg : List Rw) (f B R : Nat) (qs : List Rq) (a0 : Option Addr) (c0 c1 : Nat) (w : World) (hn1 : 1 ≤ s.reps.length) (hn : s.reps.length ≤ 4) (hrise : riseB s.steps s.reps.length = true) (h30 : lg.length ≤ 30) (h : Gow w B (stH s lg f s.reps.length s.reps.length) a0 R qs) :
    Calls Tryd.prog 56 #[.agg #[.int .i64 s.epoch, .int .i64 s.leader, .slice a0 (stps s s.reps.length).length c0, .int .i64 s.high, .slice (some ⟨R, 0, none⟩) s.reps.length c1]] w fun r w' => r = .returned (.int .i64 (lg.length : Int)) ∧ Below w.heap.size w w' := by
  have e : stH s lg f s.reps.length s.reps.length = ⟨s.epoch, s.leader, iotaZ s.reps.length, s.high, List.replicate s.reps.length (rpN s lg)⟩ := by unfold stH; rw [stps_done hn hrise, stR_done]
  obtain ⟨e1, e2⟩ := stG_raise (s := s) (lg := lg) hn1 h30 (iotaZ s.reps.length) rfl
  have hL : lstS (stH s lg f s.reps.length s.reps.length) = (lg.length : Int) := by
    rw [e]
    have hls := congrArg Gr.high e2
    have hno : nowTo ⟨s.epoch, s.leader, iotaZ s.reps.length, s.high, List.replicate s.reps.length (rpN s lg)⟩ (iotaZ s.reps.length).length := fun i hi => by
      have hi' : i < s.reps.length := by rw [iotaZ_len] at hi; exact hi
      show (rpA (List.replicate s.reps.length (rpN s lg)) (zA (iotaZ s.reps.length) i).toNat).epoch = s.epoch
      rw [show zA (iotaZ s.reps.length) i = (i : Int) from zA_some (by simp [iotaZ, hi']), Int.toNat_natCast, rpA_some (z := rpN s lg) (by simp [hi'])]
      rfl
    rw [lstS_done hno]
    exact hls
  rw [← stH_val s lg f s.reps.length s.reps.length, ← hL]
  refine l11Least_any (stH s lg f s.reps.length s.reps.length) a0 (some ⟨R, 0, none⟩) c0 c1 w h.reads ⟨?_, ?_⟩ ?_ ?_
  · show (stps s _).length ≤ maxLen
    have := stps_len s s.reps.length
    unfold maxLen; omega
  · show (stR s lg f _).length ≤ maxLen
    rw [stR_len]; unfold maxLen; omega
  · show (stR s lg f _).length ≤ _
    rw [stR_len]; omega
  · rw [e]
    intro z hz
    simp [iotaZ] at hz ⊢
    omega

end Go.Proofs.YtkhbgdnhkaeamaaDoor

namespace Go.Proofs.YtkhbgdnhkaeamaaDoor
open Go.RowKit

theorem owns_ne {w : World} {B B' R k b c n : Nat} {a : Option Addr} {zs : List Value} {qs : List Rq} (h : w.ownsRow B 3 1 (.slice a n c) n zs) (ho : Ogk w B' R k qs) (e : (Value.slice a n c).ownBlock = some b) : b ≠ R := by
  obtain ⟨-, h8 | ⟨g8, c8, u8, hv8, -, hh8, -⟩⟩ := h
  · rw [h8.1] at e; simp [Value.ownBlock] at e
  · rw [hv8] at e
    simp only [Value.ownBlock, Option.some.injEq] at e
    subst e
    rintro rfl
    obtain ⟨m', f', -, hr', -⟩ := ho.row
    obtain ⟨cur', h2, -⟩ := hr'
    rw [hh8] at h2
    simp only [Option.some.injEq, Obj.cells.injEq] at h2
    exact absurd h2.2.1 (by decide)

theorem owns_neT {w : World} {B b c n bo m : Nat} {a : Option Addr} {zs : List Value} {fb : Nat → Value} (h : w.ownsRow B 3 1 (.slice a n c) n zs) (ho : w.rowIs bo 25 m fb) (e : (Value.slice a n c).ownBlock = some b) : b ≠ bo := by
  obtain ⟨-, h8 | ⟨g8, c8, u8, hv8, -, hh8, -⟩⟩ := h
  · rw [h8.1] at e; simp [Value.ownBlock] at e
  · rw [hv8] at e
    simp only [Value.ownBlock, Option.some.injEq] at e
    subst e
    rintro rfl
    obtain ⟨cur', h2, -⟩ := ho
    rw [hh8] at h2
    simp only [Option.some.injEq, Obj.cells.injEq] at h2
    exact absurd h2.2.1 (by decide)

set_option maxRecDepth 100000 in
set_option maxHeartbeats 16000000 in
theorem specSettle_any (s : Gr) (a0 a1 : Option Addr) (c0 c1 : Nat) (w : World) (hs : GrR w s a0 a1) (hl : GrL s) :
    Calls Tryd.prog 26 #[grV s a0 c0 a1 c1] w fun r w' => ∃ b0 b1 d0 d1, r = .returned (.tuple #[grV (stlG s) b0 d0 b1 d1, .int .i64 (stlN s), .bool (goodGr s)]) ∧ GrR w' (stlG s) b0 b1 ∧ Below w.heap.size w w' := by
  obtain ⟨x0, hx0⟩ : ∃ u, ((w.alloc (.cells #[.int .i64 s.epoch, .int .i64 s.leader, .slice a0 s.steps.length c0, .int .i64 s.high, .slice a1 s.reps.length c1] 25)).alloc (.cells #[.int .i64 0, .int .i64 0, .slice none 0 0, .int .i64 0, .slice none 0 0] 25)) = u := ⟨_, rfl⟩
  have b0 : Below w.heap.size w x0 := by rw [← hx0]; exact ((Below.refl _ _).alloc (Nat.le_refl _) _).alloc (by simp) _
  have hz0a : x0.heap.size ≤ w.heap.size + 2 := by rw [← hx0]; simp
  have hz0b : w.heap.size + 2 ≤ x0.heap.size := by rw [← hx0]; simp
  have g0 : x0.cell? ⟨w.heap.size, 0, none⟩ = some (.int .i64 s.epoch) := by rw [← hx0]; simp [go_sem]
  have g1 : x0.cell? ⟨w.heap.size, 1, none⟩ = some (.int .i64 s.leader) := by rw [← hx0]; simp [go_sem]
  have g2 : x0.cell? ⟨w.heap.size, 2, none⟩ = some (.slice a0 s.steps.length c0) := by rw [← hx0]; simp [go_sem]
  have g3 : x0.cell? ⟨w.heap.size, 3, none⟩ = some (.int .i64 s.high) := by rw [← hx0]; simp [go_sem]
  have g4 : x0.cell? ⟨w.heap.size, 4, none⟩ = some (.slice a1 s.reps.length c1) := by rw [← hx0]; simp [go_sem]
  have z0 : x0.cell? ⟨w.heap.size + 1, 0, none⟩ = some (.int .i64 0) := by rw [← hx0]; simp [go_sem]
  have z1 : x0.cell? ⟨w.heap.size + 1, 1, none⟩ = some (.int .i64 0) := by rw [← hx0]; simp [go_sem]
  have z2 : x0.cell? ⟨w.heap.size + 1, 2, none⟩ = some (.slice none 0 0) := by rw [← hx0]; simp [go_sem]
  have z3 : x0.cell? ⟨w.heap.size + 1, 3, none⟩ = some (.int .i64 0) := by rw [← hx0]; simp [go_sem]
  have z4 : x0.cell? ⟨w.heap.size + 1, 4, none⟩ = some (.slice none 0 0) := by rw [← hx0]; simp [go_sem]
  have zf : ∀ o, x0.frozen? ⟨w.heap.size + 1, o, none⟩ = false := fun o => by rw [← hx0]; simp [go_sem]
  cases hg : goodGr s with
  | false =>
    have HE : Hid (stlG s = ⟨0, 0, [], 0, []⟩ ∧ stlN s = 0) := stlG_f hg
    go_enter Tryd.func26, Tryd.ntmps26
    go_wp2_with fail
    try rw [hx0]
    refine (specGoodGr_c s _ _ _ _ _ _ (hs.below b0) hl hg).mono ?_
    rintro r w1 ⟨rfl, hB1⟩
    clear hx0
    replace g0 := celB hB1 g0
    replace g1 := celB hB1 g1
    replace g2 := celB hB1 g2
    replace g3 := celB hB1 g3
    replace g4 := celB hB1 g4
    replace z0 := celB hB1 z0
    replace z1 := celB hB1 z1
    replace z2 := celB hB1 z2
    replace z3 := celB hB1 z3
    replace z4 := celB hB1 z4
    replace zf := fun o => frzB (o := o) hB1 (by omega) (zf o)
    have BW := stGr b0 hB1
    clear hB1
    go_wp2
    refine bodyPost_ret (v := .tuple #[.agg #[.int .i64 0, .int .i64 0, .slice none 0 0, .int .i64 0, .slice none 0 0], .int .i64 0, .bool false]) (by simp [results, Tryd.results26, go_sem, z0, z1, z2, z3, z4]) rfl ⟨none, none, 0, 0, by rw [HE.out.1, HE.out.2]; rfl, ?_, ?_⟩
    · rw [HE.out.1]; exact ⟨Ints.nil _ _, Rps.nil _ _⟩
    · exact ((((BW.setCell (by simp) _).setCell (by simp) _).setCell (by simp) _).setCell (by simp) _).setCell (by simp) _
  | true =>
    obtain ⟨hn2, hn4, hlog, hrise, hst4, -, -⟩ := goodGr_all hg
    obtain ⟨hh0, hh1, hh30, hl0, hl1, -⟩ := goodGr_high hg
    obtain ⟨f, hf⟩ : ∃ f : Nat, s.leader = f := ⟨s.leader.toNat, by omega⟩
    have hfn : f < s.reps.length := by omega
    obtain ⟨lg, hlg⟩ : ∃ lg, leadL s = lg := ⟨_, rfl⟩
    have hlgf : (rpA s.reps f).log = lg := by rw [← hlg, leadL, hf, Int.toNat_natCast]
    have HE : Hid (stlG s = ⟨s.epoch, s.leader, iotaZ s.reps.length, (lg.length : Int), List.replicate s.reps.length (rpN s lg)⟩ ∧ stlN s = (lg.length : Int) - s.high) := by have := stlG_t hg; rw [hlg] at this; exact this
    rw [hlg] at hh1 hh30
    have HF : Hid (s.leader = f) := hf
    have HLOG : Hid (∀ (i : Nat) (p : Rp), s.reps[i]? = some p → p.log.length ≤ 30) := hlog
    have h0n : 0 < s.reps.length := by omega
    have hhi : s.high ≤ (lg.length : Int) := hh1
    have HRI : Hid (riseB s.steps s.reps.length = true) := hrise
    have hfi : (f : Int) < (s.reps.length : Int) := by omega
    clear hf hlg hlog hl0 hl1 hrise hh1
    go_enter Tryd.func26, Tryd.ntmps26
    go_wp2_with fail
    try rw [hx0]
    refine (specGoodGr_c s _ _ _ _ _ _ (hs.below b0) hl hg).mono ?_
    rintro r w1 ⟨rfl, hB1⟩
    clear hx0 hg
    replace g0 := celB hB1 g0
    replace g1 := celB hB1 g1
    replace g2 := celB hB1 g2
    replace g3 := celB hB1 g3
    replace g4 := celB hB1 g4
    replace z0 := celB hB1 z0
    replace z1 := celB hB1 z1
    replace z2 := celB hB1 z2
    replace z3 := celB hB1 z3
    replace z4 := celB hB1 z4
    replace zf := fun o => frzB (o := o) hB1 (by omega) (zf o)
    have b1 := stGr b0 hB1
    have hz1 := hB1.size
    clear hB1
    go_wp2_with fail
    refine (l11Own_any s _ _ _ _ _ (hs.below b1) (by omega) (by omega) h0n (fun i p h => by have := HLOG.out i p h; omega)).mono ?_
    rintro r w2 ⟨b0', d0', R, c1', qs0, rfl, hG0, hOw0, hB2⟩
    replace g0 := celB hB2 g0
    replace g1 := celB hB2 g1
    replace g2 := celB hB2 g2
    replace g3 := celB hB2 g3
    replace g4 := celB hB2 g4
    replace z0 := celB hB2 z0
    replace z1 := celB hB2 z1
    replace z2 := celB hB2 z2
    replace z3 := celB hB2 z3
    replace z4 := celB hB2 z4
    replace zf := fun o => frzB (o := o) hB2 (by omega) (zf o)
    have hz2 := hB2.size
    have b2 := stGr b1 hB2
    obtain ⟨ql, hql, hqp⟩ := hG0.at (rpA_get hfn)
    have HQL : Hid (ql.p.log = lg) := by show _ = _; rw [hqp]; exact hlgf
    have hq30 := HLOG.out f ql.p (by rw [hqp]; exact rpA_get hfn)
    have hRB := hG0.og.hB
    have hRz := hG0.og.size
    clear hqp hlgf
    obtain ⟨x2, hx2⟩ : ∃ u, (w2.alloc (.cells #[.int .i64 s.epoch, .int .i64 s.leader, .slice b0' s.steps.length d0', .int .i64 s.high, .slice (some ⟨R, 0, none⟩) s.reps.length c1'] 25)) = u := ⟨_, rfl⟩
    have bx2 : Below w2.heap.size w2 x2 := by rw [← hx2]; exact alGr _ _
    have zx2a : x2.heap.size ≤ w2.heap.size + 1 := by rw [← hx2]; simp
    have zx2b : w2.heap.size + 1 ≤ x2.heap.size := by rw [← hx2]; simp
    have k0 : x2.cell? ⟨w2.heap.size, 0, none⟩ = some (.int .i64 s.epoch) := by rw [← hx2]; simp [go_sem]
    have k1 : x2.cell? ⟨w2.heap.size, 1, none⟩ = some (.int .i64 s.leader) := by rw [← hx2]; simp [go_sem]
    have k2 : x2.cell? ⟨w2.heap.size, 2, none⟩ = some (.slice b0' s.steps.length d0') := by rw [← hx2]; simp [go_sem]
    have k3 : x2.cell? ⟨w2.heap.size, 3, none⟩ = some (.int .i64 s.high) := by rw [← hx2]; simp [go_sem]
    have k4 : x2.cell? ⟨w2.heap.size, 4, none⟩ = some (.slice (some ⟨R, 0, none⟩) s.reps.length c1') := by rw [← hx2]; simp [go_sem]
    have kf : ∀ o, x2.frozen? ⟨w2.heap.size, o, none⟩ = false := fun o => by rw [← hx2]; simp [go_sem]
    obtain ⟨fb2, hbr2⟩ : ∃ fb, x2.rowIs w2.heap.size 25 5 fb := by rw [← hx2]; exact ⟨_, rowIs_of_alloc6 w2 #[.int .i64 s.epoch, .int .i64 s.leader, .slice b0' s.steps.length d0', .int .i64 s.high, .slice (some ⟨R, 0, none⟩) s.reps.length c1'] 25⟩
    have kl : x2.cell? ⟨w2.heap.size, 1, none⟩ = some (.int .i64 (f : Int)) := by rw [← HF.out]; exact k1
    have HK1 : Hid (x2.cell? ⟨w2.heap.size, 1, none⟩ = some (.int .i64 s.leader)) := k1
    clear k1
    have hG2 := hG0.below bx2
    obtain ⟨l0, l1, l2⟩ := hG2.row.1 f ql hql
    replace g0 := celB bx2 g0
    replace g1 := celB bx2 g1
    replace g2 := celB bx2 g2
    replace g3 := celB bx2 g3
    replace g4 := celB bx2 g4
    replace z0 := celB bx2 z0
    replace z1 := celB bx2 z1
    replace z2 := celB bx2 z2
    replace z3 := celB bx2 z3
    replace z4 := celB bx2 z4
    replace zf := fun o => frzB (o := o) bx2 (by omega) (zf o)
    obtain ⟨x3, hx3⟩ : ∃ u, (x2.alloc (.cells #[.slice ql.a ql.p.log.length ql.c, .int .i64 ql.p.epoch, .int .i64 ql.p.known] 81)) = u := ⟨_, rfl⟩
    have bx3 : Below x2.heap.size x2 x3 := by rw [← hx3]; exact alGr _ _
    have zx3a : x3.heap.size ≤ x2.heap.size + 1 := by rw [← hx3]; simp
    have zx3b : x2.heap.size + 1 ≤ x3.heap.size := by rw [← hx3]; simp
    have m0 : x3.cell? ⟨x2.heap.size, 0, none⟩ = some (.slice ql.a ql.p.log.length ql.c) := by rw [← hx3]; simp [go_sem]
    have m1 : x3.cell? ⟨x2.heap.size, 1, none⟩ = some (.int .i64 ql.p.epoch) := by rw [← hx3]; simp [go_sem]
    have m2 : x3.cell? ⟨x2.heap.size, 2, none⟩ = some (.int .i64 ql.p.known) := by rw [← hx3]; simp [go_sem]
    have mf : ∀ o, x3.frozen? ⟨x2.heap.size, o, none⟩ = false := fun o => by rw [← hx3]; simp [go_sem]
    obtain ⟨x4, hx4⟩ : ∃ u, ((x3.setCell ⟨x2.heap.size, 1, none⟩ (.int .i64 s.epoch)).setCell ⟨x2.heap.size, 2, none⟩ (.int .i64 (ql.p.log.length : Int))) = u := ⟨_, rfl⟩
    have bx4 : Below x2.heap.size x2 x4 := by rw [← hx4]; exact (bx3.setCell (Nat.le_refl _) _).setCell (Nat.le_refl _) _
    have zx4a : x4.heap.size ≤ x3.heap.size := by rw [← hx4]; simp
    have zx4b : x3.heap.size ≤ x4.heap.size := by rw [← hx4]; simp
    have n0 : x4.cell? ⟨x2.heap.size, 0, none⟩ = some (.slice ql.a ql.p.log.length ql.c) := by rw [← hx4]; simp [go_sem, m0]
    have n1 : x4.cell? ⟨x2.heap.size, 1, none⟩ = some (.int .i64 s.epoch) := by rw [← hx4]; simp [go_sem, m1]
    have n2 : x4.cell? ⟨x2.heap.size, 2, none⟩ = some (.int .i64 (ql.p.log.length : Int)) := by rw [← hx4]; simp [go_sem, m2]
    have hG4 := hG2.below bx4
    obtain ⟨cR0, cR1, cR2⟩ := hG4.row.1 f ql hql
    have fR := hG4.row.2
    have kl3 := celB bx3 kl
    have k0a := celB bx3 k0
    have k2a := celB bx3 k2
    have k3a := celB bx3 k3
    have k4a := celB bx3 k4
    have kl4 := celB bx4 kl
    have k0b := celB bx4 k0
    have k2b := celB bx4 k2
    have k3b := celB bx4 k3
    have k4b := celB bx4 k4
    obtain ⟨x5, hx5⟩ : ∃ u, (((x4.setCell ⟨R, f * 3, none⟩ (.slice ql.a ql.p.log.length ql.c)).setCell ⟨R, f * 3 + 1, none⟩ (.int .i64 s.epoch)).setCell ⟨R, f * 3 + 2, none⟩ (.int .i64 (ql.p.log.length : Int))) = u := ⟨_, rfl⟩
    have zx5a : x5.heap.size ≤ x4.heap.size := by rw [← hx5]; simp
    have zx5b : x4.heap.size ≤ x5.heap.size := by rw [← hx5]; simp
    have hG5 : Gow x5 w1.heap.size (stH s lg f 0 0) b0' R (qs0.set f ⟨⟨ql.p.log, s.epoch, (ql.p.log.length : Int)⟩, ql.a, ql.c⟩) := by rw [← stH_zero lg f hn4 HRI.out, ← hx5, ← HQL.out]; unfold upN; exact hG4.keep hql _ _
    have o5 : ∀ b, b < x4.heap.size → b ≠ R → x5.heap[b]? = x4.heap[b]? := fun b _ hne => by rw [← hx5, Below.heap_setCell _ ⟨R, _, none⟩ _ b (fun e => hne e), Below.heap_setCell _ ⟨R, _, none⟩ _ b (fun e => hne e), Below.heap_setCell _ ⟨R, _, none⟩ _ b (fun e => hne e)]
    have B5 : Below w1.heap.size w2 x5 := by rw [← hx5]; exact Gow.set3b (((bx2.trans (bx4.mono bx2.size)).mono (by omega))) hRB
    have c5 : ∀ b o v, x4.cell? ⟨b, o, none⟩ = some v → b < x4.heap.size → b ≠ R → x5.cell? ⟨b, o, none⟩ = some v := fun b o v hc h1 h2 => (World.cell?_of_block (a := ⟨b, o, none⟩) (o5 b h1 h2)).trans hc
    have f5 : ∀ b, b < x4.heap.size → b ≠ R → (∀ o, x4.frozen? ⟨b, o, none⟩ = false) → ∀ o, x5.frozen? ⟨b, o, none⟩ = false := fun b h1 h2 h3 o => (World.frozen?_of_block (a := ⟨b, o, none⟩) (o5 b h1 h2)).trans (h3 o)
    have p0 := c5 _ _ _ k0b (by omega) (by omega)
    have p2 := c5 _ _ _ k2b (by omega) (by omega)
    have p3 := c5 _ _ _ k3b (by omega) (by omega)
    have p4 := c5 _ _ _ k4b (by omega) (by omega)
    have p1 := c5 _ _ _ (celB bx4 HK1.out) (by omega) (by omega)
    have pf := f5 w2.heap.size (by omega) (by omega) (fun o => frzB bx4 (by omega) (kf o))
    have y0 := c5 _ _ _ (celB bx4 g0) (by omega) (by omega)
    have y1 := c5 _ _ _ (celB bx4 g1) (by omega) (by omega)
    have y2 := c5 _ _ _ (celB bx4 g2) (by omega) (by omega)
    have y3 := c5 _ _ _ (celB bx4 g3) (by omega) (by omega)
    have y4 := c5 _ _ _ (celB bx4 g4) (by omega) (by omega)
    have v0 := c5 _ _ _ (celB bx4 z0) (by omega) (by omega)
    have v1 := c5 _ _ _ (celB bx4 z1) (by omega) (by omega)
    have v2 := c5 _ _ _ (celB bx4 z2) (by omega) (by omega)
    have v3 := c5 _ _ _ (celB bx4 z3) (by omega) (by omega)
    have v4 := c5 _ _ _ (celB bx4 z4) (by omega) (by omega)
    have vf := f5 (w.heap.size + 1) (by omega) (by omega) (fun o => frzB bx4 (by omega) (zf o))
    have hOw5 : x5.ownsRow w1.heap.size 3 1 (.slice b0' s.steps.length d0') s.steps.length (zCells s.steps) := by
      refine owns_oth (ownsZ_below (ownsZ_below hOw0 bx2) bx4) fun b e => ?_
      have hlt := (hOw0.lt b e).2
      exact o5 b (by omega) (owns_ne hOw0 hG0.og e)
    have hbr5 := (hbr2.of_block (bx4.block _ (by omega))).of_block (o5 w2.heap.size (by omega) (by omega))
    have hOb5 : ∀ b, (Value.slice b0' (stps s 0).length d0').ownBlock = some b → b ≠ w2.heap.size := fun b e => by rw [stps_zero hn4 HRI.out] at e; have := (hOw0.lt b e).2; omega
    have hFr5 : ∀ (i : Nat) (q : Rq), (qs0.set f ⟨⟨ql.p.log, s.epoch, (ql.p.log.length : Int)⟩, ql.a, ql.c⟩)[i]? = some q → ¬ InI q.a q.p.log.length w2.heap.size := fun i q hq hi => hG0.ne_set (b := w2.heap.size) (Nat.le_refl _) f ⟨⟨ql.p.log, s.epoch, (ql.p.log.length : Int)⟩, ql.a, ql.c⟩ (fun c hc => by have := hG0.og.lt f ql c hql hc; omega) _ (.inr (.inr ⟨i, q, hq, hi⟩)) rfl
    have B5w : Below w.heap.size w x5 := b2.trans (B5.mono (by omega))
    rw [← stps_zero hn4 HRI.out] at p2 hOw5
    go_wp2_with fail
    try rw [hx2]
    try rw [hx3]
    try rw [hx4]
    try rw [hx5]
    clear hx2 hx3 hx4 hx5 hG0 hG2 hG4 hOw0 hB2 bx2 bx3 bx4 o5 c5 f5 k0 k2 k3 k4 kl kf m0 m1 m2 mf n0 n1 n2 cR0 cR1 cR2 fR k0a k2a k3a k4a k0b k2b k3b k4b kl3 kl4 l0 l1 l2 hql
    go_loopw [37] (fun i wr => ∃ (k : Nat) (qs : List Rq) (bv : Option Addr) (dv : Nat), k ≤ s.reps.length ∧ i = .int .i64 k ∧ Gow wr w1.heap.size (stH s lg f k k) bv R qs ∧ (∀ (i : Nat) (q : Rq), qs[i]? = some q → ¬ InI q.a q.p.log.length w2.heap.size) ∧ wr.ownsRow w1.heap.size 3 1 (.slice bv (stps s k).length dv) (stps s k).length (zCells (stps s k)) ∧ (∀ b, (Value.slice bv (stps s k).length dv).ownBlock = some b → b ≠ w2.heap.size) ∧ Below w1.heap.size x5 wr ∧ w2.heap.size < wr.heap.size ∧ (∃ fb, wr.rowIs w2.heap.size 25 5 fb) ∧ (wr.cell? ⟨w2.heap.size, 0, none⟩ = some (.int .i64 s.epoch) ∧ wr.cell? ⟨w2.heap.size, 1, none⟩ = some (.int .i64 s.leader) ∧ wr.cell? ⟨w2.heap.size, 2, none⟩ = some (.slice bv (stps s k).length dv) ∧ wr.cell? ⟨w2.heap.size, 3, none⟩ = some (.int .i64 s.high) ∧ wr.cell? ⟨w2.heap.size, 4, none⟩ = some (.slice (some ⟨R, 0, none⟩) s.reps.length c1') ∧ ∀ o, wr.frozen? ⟨w2.heap.size, o, none⟩ = false)) (fun i _ => s.reps.length - (intOf i).toNat)
    case atStart => exact ⟨0, _, b0', d0', Nat.zero_le _, rfl, hG5, hFr5, hOw5, hOb5, Below.refl _ _, by omega, ⟨_, hbr5⟩, p0, p1, p2, p3, p4, pf⟩
    case round =>
      clear hG5 hFr5 hOw5 hOb5 p0 p1 p2 p3 p4 pf
      obtain ⟨k, qs, bv, dv, hk, rfl, hG, hFr, hOw, hOb, hB, hbz, ⟨fb, hbr⟩, p0, p1, p2, p3, p4, pf⟩ := hrel
      have hzr := hB.size
      replace y0 : wr.cell? ⟨w.heap.size, 0, none⟩ = some (.int .i64 s.epoch) := (hB.cell (p := ⟨w.heap.size, 0, none⟩) (by show w.heap.size < _; omega)).trans y0
      replace y1 : wr.cell? ⟨w.heap.size, 1, none⟩ = some (.int .i64 s.leader) := (hB.cell (p := ⟨w.heap.size, 1, none⟩) (by show w.heap.size < _; omega)).trans y1
      replace y2 : wr.cell? ⟨w.heap.size, 2, none⟩ = some (.slice a0 s.steps.length c0) := (hB.cell (p := ⟨w.heap.size, 2, none⟩) (by show w.heap.size < _; omega)).trans y2
      replace y3 : wr.cell? ⟨w.heap.size, 3, none⟩ = some (.int .i64 s.high) := (hB.cell (p := ⟨w.heap.size, 3, none⟩) (by show w.heap.size < _; omega)).trans y3
      replace y4 : wr.cell? ⟨w.heap.size, 4, none⟩ = some (.slice a1 s.reps.length c1) := (hB.cell (p := ⟨w.heap.size, 4, none⟩) (by show w.heap.size < _; omega)).trans y4
      replace v0 : wr.cell? ⟨w.heap.size + 1, 0, none⟩ = some (.int .i64 0) := (hB.cell (p := ⟨w.heap.size + 1, 0, none⟩) (by show w.heap.size + 1 < _; omega)).trans v0
      replace v1 : wr.cell? ⟨w.heap.size + 1, 1, none⟩ = some (.int .i64 0) := (hB.cell (p := ⟨w.heap.size + 1, 1, none⟩) (by show w.heap.size + 1 < _; omega)).trans v1
      replace v2 : wr.cell? ⟨w.heap.size + 1, 2, none⟩ = some (.slice none 0 0) := (hB.cell (p := ⟨w.heap.size + 1, 2, none⟩) (by show w.heap.size + 1 < _; omega)).trans v2
      replace v3 : wr.cell? ⟨w.heap.size + 1, 3, none⟩ = some (.int .i64 0) := (hB.cell (p := ⟨w.heap.size + 1, 3, none⟩) (by show w.heap.size + 1 < _; omega)).trans v3
      replace v4 : wr.cell? ⟨w.heap.size + 1, 4, none⟩ = some (.slice none 0 0) := (hB.cell (p := ⟨w.heap.size + 1, 4, none⟩) (by show w.heap.size + 1 < _; omega)).trans v4
      replace vf : ∀ o, wr.frozen? ⟨w.heap.size + 1, o, none⟩ = false := fun o => (hB.frozen (p := ⟨w.heap.size + 1, o, none⟩) (by show w.heap.size + 1 < _; omega)).trans (vf o)
      have hRw := hG.og.size
      by_cases hlt : k < s.reps.length
      · have hki : (k : Int) < (s.reps.length : Int) := by omega
        have hsl := stps_len s k
        by_cases hkf : k = f
        · have HKL : Hid (((k : Int) != s.leader) = false) := by show _ = _; rw [HF.out, hkf]; simp
          have hG6 : Gow wr w1.heap.size (stH s lg f (k + 1) k) bv R qs := by
            subst hkf
            rw [← stH_skip]
            exact hG
          clear hkf hG
          have hkl := HKL.out
          have hbr6 := hbr
          have hOw6 := hOw
          have hB6 := hB
          have hFr6 := hFr
          have q0 := p0
          have q1 := p1
          have q2 := p2
          have q3 := p3
          have q4 := p4
          have qf := pf
          go_wp2_with fail
          refine (l1Put_any (stps s k) (k : Int) (by omega) w1.heap.size bv dv _ (by omega) hOw6).mono ?_
          rintro r w8 ⟨bn, dn, hr, hOw8, hB8⟩
          rw [stps_succ hn4 HRI.out hlt] at hr hOw8
          subst hr
          have hz8 := hB8.size
          have s0 := celB hB8 q0
          have s1 := celB hB8 q1
          have s2 := celB hB8 q2
          have s3 := celB hB8 q3
          have s4 := celB hB8 q4
          have sf := fun o => frzB (o := o) hB8 (by omega) (qf o)
          have hbr8 := hbr6.of_block (hB8.block _ (by omega))
          have HOb : Hid (∀ b, (Value.slice bn (stps s (k + 1)).length dn).ownBlock = some b → b ≠ w2.heap.size) := fun b e => owns_neT hOw8 hbr8 e
          have HBR : Hid (∃ fb, (w8.setCell ⟨w2.heap.size, 2, none⟩ (.slice bn (stps s (k + 1)).length dn)).rowIs w2.heap.size 25 5 fb) := ⟨_, hbr8.set 2 _⟩
          have HG8 : Hid (Gow (w8.setCell ⟨w2.heap.size, 2, none⟩ (.slice bn (stps s (k + 1)).length dn)) w1.heap.size (stH s lg f (k + 1) (k + 1)) bn R qs) := by
            show Gow _ _ _ _ _ _
            have hI := ints_of_owns hOw8
            have hGx : Gow w8 w1.heap.size (stH s lg f (k + 1) (k + 1)) bn R qs := (hG6.below hB8).newSteps (stH s lg f (k + 1) (k + 1)) rfl bn hI.1 hI.2 (fun b hi => rowI_ne hI.2 (hG6.below hB8).og hi)
            refine hGx.setO' (fun c hc => ?_) _ _
            rcases hc with hc | hc | ⟨i, q, hq, hi⟩
            · obtain ⟨h9, o9, s9, e9⟩ := hc
              exact HOb.out c (by rw [e9]; rfl)
            · omega
            · rintro rfl; exact hFr6 i q hq hi
          have HO8 : Hid ((w8.setCell ⟨w2.heap.size, 2, none⟩ (.slice bn (stps s (k + 1)).length dn)).ownsRow w1.heap.size 3 1 (.slice bn (stps s (k + 1)).length dn) (stps s (k + 1)).length (zCells (stps s (k + 1)))) := owns_oth hOw8 fun b e => Below.heap_setCell _ ⟨w2.heap.size, 2, none⟩ _ b (HOb.out b e)
          have HB8 : Hid (Below w1.heap.size x5 (w8.setCell ⟨w2.heap.size, 2, none⟩ (.slice bn (stps s (k + 1)).length dn))) := (hB6.trans (hB8.mono (by omega))).setCell (by show _ ≤ w2.heap.size; omega) _
          have HZ8 : Hid (w2.heap.size < (w8.setCell ⟨w2.heap.size, 2, none⟩ (.slice bn (stps s (k + 1)).length dn)).heap.size) := by show _ < _; simp; omega
          have HN : Hid ((w8.setCell ⟨w2.heap.size, 2, none⟩ (.slice bn (stps s (k + 1)).length dn)).cell? ⟨w2.heap.size, 0, none⟩ = some (.int .i64 s.epoch) ∧ (w8.setCell ⟨w2.heap.size, 2, none⟩ (.slice bn (stps s (k + 1)).length dn)).cell? ⟨w2.heap.size, 1, none⟩ = some (.int .i64 s.leader) ∧ (w8.setCell ⟨w2.heap.size, 2, none⟩ (.slice bn (stps s (k + 1)).length dn)).cell? ⟨w2.heap.size, 2, none⟩ = some (.slice bn (stps s (k + 1)).length dn) ∧ (w8.setCell ⟨w2.heap.size, 2, none⟩ (.slice bn (stps s (k + 1)).length dn)).cell? ⟨w2.heap.size, 3, none⟩ = some (.int .i64 s.high) ∧ (w8.setCell ⟨w2.heap.size, 2, none⟩ (.slice bn (stps s (k + 1)).length dn)).cell? ⟨w2.heap.size, 4, none⟩ = some (.slice (some ⟨R, 0, none⟩) s.reps.length c1') ∧ ∀ o, (w8.setCell ⟨w2.heap.size, 2, none⟩ (.slice bn (stps s (k + 1)).length dn)).frozen? ⟨w2.heap.size, o, none⟩ = false) := by
            refine ⟨?_, ?_, ?_, ?_, ?_, fun o => ?_⟩
            all_goals simp [go_sem, s0, s1, s2, s3, s4, sf]
          clear hkl hOw hB hFr hG6 hOw8 hB8
          go_wp2
          go_roundw
          case rel => exact ⟨k + 1, _, _, _, by omega, by go_num, HG8.out, hFr6, HO8.out, HOb.out, HB8.out, HZ8.out, HBR.out, HN.out⟩
          case measure => simp [intOf]; omega
        · have hkl : ((k : Int) != s.leader) = true := by rw [HF.out]; simp; omega
          clear hkf
          go_wp2_with fail
          refine (fetchH s lg f k k w1.heap.size R qs _ _ _ _ hG HF.out hfn hlt hn4 hh30).mono ?_
          rintro r w6 ⟨qs', rfl, hG6', hB6', hO6, hF6⟩
          have hz6 := hB6'.size
          have c6 : ∀ o v, wr.cell? ⟨w2.heap.size, o, none⟩ = some v → w6.cell? ⟨w2.heap.size, o, none⟩ = some v := fun o v h => (World.cell?_of_block (a := ⟨w2.heap.size, o, none⟩) (hO6 w2.heap.size hbz (by omega))).trans h
          have f6 : ∀ o, w6.frozen? ⟨w2.heap.size, o, none⟩ = false := fun o => (World.frozen?_of_block (a := ⟨w2.heap.size, o, none⟩) (hO6 w2.heap.size hbz (by omega))).trans (pf o)
          have n0 := c6 0 _ p0
          have n1 := c6 1 _ p1
          have n2 := c6 2 _ p2
          have n3 := c6 3 _ p3
          have n4 := c6 4 _ p4
          have hFr6 : ∀ (i : Nat) (q : Rq), qs'[i]? = some q → ¬ InI q.a q.p.log.length w2.heap.size := hF6 _ hbz hFr
          obtain ⟨x7, hx7⟩ : ∃ u, (((((w6.setCell ⟨w2.heap.size, 0, none⟩ (.int .i64 s.epoch)).setCell ⟨w2.heap.size, 1, none⟩ (.int .i64 s.leader)).setCell ⟨w2.heap.size, 2, none⟩ (.slice bv (stps s k).length dv)).setCell ⟨w2.heap.size, 3, none⟩ (.int .i64 s.high)).setCell ⟨w2.heap.size, 4, none⟩ (.slice (some ⟨R, 0, none⟩) s.reps.length c1')) = u := ⟨_, rfl⟩
          have zx7a : x7.heap.size ≤ w6.heap.size := by rw [← hx7]; simp
          have zx7b : w6.heap.size ≤ x7.heap.size := by rw [← hx7]; simp
          have q0 : x7.cell? ⟨w2.heap.size, 0, none⟩ = some (.int .i64 s.epoch) := by rw [← hx7]; simp [go_sem, n0]
          have q1 : x7.cell? ⟨w2.heap.size, 1, none⟩ = some (.int .i64 s.leader) := by rw [← hx7]; simp [go_sem, n1]
          have q2 : x7.cell? ⟨w2.heap.size, 2, none⟩ = some (.slice bv (stps s k).length dv) := by rw [← hx7]; simp [go_sem, n2]
          have q3 : x7.cell? ⟨w2.heap.size, 3, none⟩ = some (.int .i64 s.high) := by rw [← hx7]; simp [go_sem, n3]
          have q4 : x7.cell? ⟨w2.heap.size, 4, none⟩ = some (.slice (some ⟨R, 0, none⟩) s.reps.length c1') := by rw [← hx7]; simp [go_sem, n4]
          have qf : ∀ o, x7.frozen? ⟨w2.heap.size, o, none⟩ = false := fun o => by rw [← hx7]; simp [go_sem, f6]
          have hne : ∀ c, (InI bv (stH s lg f (k + 1) k).steps.length c ∨ c = R ∨ ∃ (i : Nat) (q : Rq), qs'[i]? = some q ∧ InI q.a q.p.log.length c) → c ≠ w2.heap.size := fun c hc => by
            rcases hc with hc | hc | ⟨i, q, hq, hi⟩
            · obtain ⟨h9, o9, s9, e9⟩ := hc
              exact hOb c (by rw [e9]; rfl)
            · omega
            · rintro rfl; exact hFr6 i q hq hi
          have hG6 : Gow x7 w1.heap.size (stH s lg f (k + 1) k) bv R qs' := by rw [← hx7]; exact ((((hG6'.setO' hne _ _).setO' hne _ _).setO' hne _ _).setO' hne _ _).setO' hne _ _
          have hB6 : Below w1.heap.size x5 x7 := by rw [← hx7]; exact (((((hB.trans hB6').setCell (by show _ ≤ w2.heap.size; omega) _).setCell (by show _ ≤ w2.heap.size; omega) _).setCell (by show _ ≤ w2.heap.size; omega) _).setCell (by show _ ≤ w2.heap.size; omega) _).setCell (by show _ ≤ w2.heap.size; omega) _
          have hOw6 : x7.ownsRow w1.heap.size 3 1 (.slice bv (stps s k).length dv) (stps s k).length (zCells (stps s k)) := by
            refine owns_oth hOw fun b e => ?_
            have h8 := hOb b e
            have h9 := (hOw.lt b e).2
            rw [← hx7, Below.heap_setCell _ ⟨w2.heap.size, _, none⟩ _ b (fun e => h8 e), Below.heap_setCell _ ⟨w2.heap.size, _, none⟩ _ b (fun e => h8 e), Below.heap_setCell _ ⟨w2.heap.size, _, none⟩ _ b (fun e => h8 e), Below.heap_setCell _ ⟨w2.heap.size, _, none⟩ _ b (fun e => h8 e), Below.heap_setCell _ ⟨w2.heap.size, _, none⟩ _ b (fun e => h8 e)]
            refine hO6 b h9 ?_
            exact owns_ne hOw hG.og e
          obtain ⟨fb6, hbr6⟩ : ∃ fb, x7.rowIs w2.heap.size 25 5 fb := by rw [← hx7]; exact ⟨_, (((((hbr.of_block (hO6 w2.heap.size hbz (by omega))).set 0 _).set 1 _).set 2 _).set 3 _).set 4 _⟩
          go_wp2_with fail
          try rw [hx7]
          clear hx7
          refine (l1Put_any (stps s k) (k : Int) (by omega) w1.heap.size bv dv _ (by omega) hOw6).mono ?_
          rintro r w8 ⟨bn, dn, hr, hOw8, hB8⟩
          rw [stps_succ hn4 HRI.out hlt] at hr hOw8
          subst hr
          have hz8 := hB8.size
          have s0 := celB hB8 q0
          have s1 := celB hB8 q1
          have s2 := celB hB8 q2
          have s3 := celB hB8 q3
          have s4 := celB hB8 q4
          have sf := fun o => frzB (o := o) hB8 (by omega) (qf o)
          have hbr8 := hbr6.of_block (hB8.block _ (by omega))
          have HOb : Hid (∀ b, (Value.slice bn (stps s (k + 1)).length dn).ownBlock = some b → b ≠ w2.heap.size) := fun b e => owns_neT hOw8 hbr8 e
          have HBR : Hid (∃ fb, (w8.setCell ⟨w2.heap.size, 2, none⟩ (.slice bn (stps s (k + 1)).length dn)).rowIs w2.heap.size 25 5 fb) := ⟨_, hbr8.set 2 _⟩
          have HG8 : Hid (Gow (w8.setCell ⟨w2.heap.size, 2, none⟩ (.slice bn (stps s (k + 1)).length dn)) w1.heap.size (stH s lg f (k + 1) (k + 1)) bn R qs') := by
            show Gow _ _ _ _ _ _
            have hI := ints_of_owns hOw8
            have hGx : Gow w8 w1.heap.size (stH s lg f (k + 1) (k + 1)) bn R qs' := (hG6.below hB8).newSteps (stH s lg f (k + 1) (k + 1)) rfl bn hI.1 hI.2 (fun b hi => rowI_ne hI.2 (hG6.below hB8).og hi)
            refine hGx.setO' (fun c hc => ?_) _ _
            rcases hc with hc | hc | ⟨i, q, hq, hi⟩
            · obtain ⟨h9, o9, s9, e9⟩ := hc
              exact HOb.out c (by rw [e9]; rfl)
            · omega
            · rintro rfl; exact hFr6 i q hq hi
          have HO8 : Hid ((w8.setCell ⟨w2.heap.size, 2, none⟩ (.slice bn (stps s (k + 1)).length dn)).ownsRow w1.heap.size 3 1 (.slice bn (stps s (k + 1)).length dn) (stps s (k + 1)).length (zCells (stps s (k + 1)))) := owns_oth hOw8 fun b e => Below.heap_setCell _ ⟨w2.heap.size, 2, none⟩ _ b (HOb.out b e)
          have HB8 : Hid (Below w1.heap.size x5 (w8.setCell ⟨w2.heap.size, 2, none⟩ (.slice bn (stps s (k + 1)).length dn))) := (hB6.trans (hB8.mono (by omega))).setCell (by show _ ≤ w2.heap.size; omega) _
          have HZ8 : Hid (w2.heap.size < (w8.setCell ⟨w2.heap.size, 2, none⟩ (.slice bn (stps s (k + 1)).length dn)).heap.size) := by show _ < _; simp; omega
          have HN : Hid ((w8.setCell ⟨w2.heap.size, 2, none⟩ (.slice bn (stps s (k + 1)).length dn)).cell? ⟨w2.heap.size, 0, none⟩ = some (.int .i64 s.epoch) ∧ (w8.setCell ⟨w2.heap.size, 2, none⟩ (.slice bn (stps s (k + 1)).length dn)).cell? ⟨w2.heap.size, 1, none⟩ = some (.int .i64 s.leader) ∧ (w8.setCell ⟨w2.heap.size, 2, none⟩ (.slice bn (stps s (k + 1)).length dn)).cell? ⟨w2.heap.size, 2, none⟩ = some (.slice bn (stps s (k + 1)).length dn) ∧ (w8.setCell ⟨w2.heap.size, 2, none⟩ (.slice bn (stps s (k + 1)).length dn)).cell? ⟨w2.heap.size, 3, none⟩ = some (.int .i64 s.high) ∧ (w8.setCell ⟨w2.heap.size, 2, none⟩ (.slice bn (stps s (k + 1)).length dn)).cell? ⟨w2.heap.size, 4, none⟩ = some (.slice (some ⟨R, 0, none⟩) s.reps.length c1') ∧ ∀ o, (w8.setCell ⟨w2.heap.size, 2, none⟩ (.slice bn (stps s (k + 1)).length dn)).frozen? ⟨w2.heap.size, o, none⟩ = false) := by
            refine ⟨?_, ?_, ?_, ?_, ?_, fun o => ?_⟩
            all_goals simp [go_sem, s0, s1, s2, s3, s4, sf]
          clear hkl hOw hB hFr hG hG6 hG6' hO6 hF6 hOw8 hB8 hB6'
          go_wp2
          go_roundw
          case rel => exact ⟨k + 1, _, _, _, by omega, by go_num, HG8.out, hFr6, HO8.out, HOb.out, HB8.out, HZ8.out, HBR.out, HN.out⟩
          case measure => simp [intOf]; omega
      · obtain rfl : k = s.reps.length := by omega
        have BW : Below w.heap.size w wr := B5w.trans (hB.mono (by omega))
        go_wp2_with fail
        refine (leastH s lg f w1.heap.size R qs _ _ _ _ (by omega) hn4 HRI.out hh30 hG).mono ?_
        rintro r w10 ⟨rfl, hB10⟩
        have hz10 := hB10.size
        replace p0 := celB hB10 p0
        replace p1 := celB hB10 p1
        replace p2 := celB hB10 p2
        replace p3 := celB hB10 p3
        replace p4 := celB hB10 p4
        replace pf := fun o => frzB (o := o) hB10 (by omega) (pf o)
        replace y0 := celB hB10 y0
        replace y1 := celB hB10 y1
        replace y2 := celB hB10 y2
        replace y3 := celB hB10 y3
        replace y4 := celB hB10 y4
        replace v0 := celB hB10 v0
        replace v1 := celB hB10 v1
        replace v2 := celB hB10 v2
        replace v3 := celB hB10 v3
        replace v4 := celB hB10 v4
        replace vf := fun o => frzB (o := o) hB10 (by omega) (vf o)
        have hG10 := hG.below hB10
        have B10' := stGr BW hB10
        have HV : Hid (grV ⟨s.epoch, s.leader, stps s s.reps.length, (lg.length : Int), stR s lg f s.reps.length⟩ bv dv (some ⟨R, 0, none⟩) c1' = .agg #[.int .i64 s.epoch, .int .i64 s.leader, .slice bv (stps s s.reps.length).length dv, .int .i64 (lg.length : Int), .slice (some ⟨R, 0, none⟩) s.reps.length c1']) := by show _ = _; simp [stR_len]
        have HV2 : Hid (∀ e0 e1 R2 e2, grV ⟨s.epoch, s.leader, stps s s.reps.length, (lg.length : Int), stR s lg f s.reps.length⟩ e0 e1 (some ⟨R2, 0, none⟩) e2 = .agg #[.int .i64 s.epoch, .int .i64 s.leader, .slice e0 (stps s s.reps.length).length e1, .int .i64 (lg.length : Int), .slice (some ⟨R2, 0, none⟩) s.reps.length e2]) := by intro _ _ _ _; simp [stR_len]
        have hne : ∀ c, (InI bv (stH s lg f s.reps.length s.reps.length).steps.length c ∨ c = R ∨ ∃ (i : Nat) (q : Rq), qs[i]? = some q ∧ InI q.a q.p.log.length c) → c ≠ w2.heap.size := fun c hc => by
          rcases hc with hc | hc | ⟨i, q, hq, hi⟩
          · obtain ⟨h9, o9, s9, e9⟩ := hc
            exact hOb c (by rw [e9]; rfl)
          · omega
          · rintro rfl; exact hFr i q hq hi
        clear hB10 hG hOw hOb hFr
        by_cases hgt : s.high < (lg.length : Int)
        · obtain ⟨x11, hx11⟩ : ∃ u, (w10.setCell ⟨w2.heap.size, 3, none⟩ (.int .i64 (lg.length : Int))) = u := ⟨_, rfl⟩
          have zx11a : x11.heap.size ≤ w10.heap.size := by rw [← hx11]; simp
          have zx11b : w10.heap.size ≤ x11.heap.size := by rw [← hx11]; simp
          have hGz : Gow x11 w1.heap.size ⟨s.epoch, s.leader, stps s s.reps.length, (lg.length : Int), stR s lg f s.reps.length⟩ bv R qs := by rw [← hx11]; exact (hG10.setO' hne _ _).re rfl rfl
          have B10 : Below w.heap.size w x11 := by rw [← hx11]; exact B10'.setCell (by show _ ≤ w2.heap.size; omega) _
          have p3' : w10.cell? ⟨w2.heap.size, 3, none⟩ = some (.int .i64 s.high) := p3
          have HX : Hid (w10.setCell ⟨w2.heap.size, 3, none⟩ (.int .i64 (lg.length : Int)) = x11) := hx11
          go_wp2_with fail
          try rw [hx11]
          replace p0 : x11.cell? ⟨w2.heap.size, 0, none⟩ = some (.int .i64 s.epoch) := by rw [← hx11]; simp [go_sem, p0]
          replace p1 : x11.cell? ⟨w2.heap.size, 1, none⟩ = some (.int .i64 s.leader) := by rw [← hx11]; simp [go_sem, p1]
          replace p2 : x11.cell? ⟨w2.heap.size, 2, none⟩ = some (.slice bv (stps s s.reps.length).length dv) := by rw [← hx11]; simp [go_sem, p2]
          replace p3 : x11.cell? ⟨w2.heap.size, 3, none⟩ = some (.int .i64 (lg.length : Int)) := by rw [← hx11]; simp [go_sem, p3]
          replace p4 : x11.cell? ⟨w2.heap.size, 4, none⟩ = some (.slice (some ⟨R, 0, none⟩) s.reps.length c1') := by rw [← hx11]; simp [go_sem, p4]
          replace y0 : x11.cell? ⟨w.heap.size, 0, none⟩ = some (.int .i64 s.epoch) := by rw [← hx11, World.cell?_setCell_other _ _ _ _ (by first | (simp; done) | (simp; omega))]; exact y0
          replace y1 : x11.cell? ⟨w.heap.size, 1, none⟩ = some (.int .i64 s.leader) := by rw [← hx11, World.cell?_setCell_other _ _ _ _ (by first | (simp; done) | (simp; omega))]; exact y1
          replace y2 : x11.cell? ⟨w.heap.size, 2, none⟩ = some (.slice a0 s.steps.length c0) := by rw [← hx11, World.cell?_setCell_other _ _ _ _ (by first | (simp; done) | (simp; omega))]; exact y2
          replace y3 : x11.cell? ⟨w.heap.size, 3, none⟩ = some (.int .i64 s.high) := by rw [← hx11, World.cell?_setCell_other _ _ _ _ (by first | (simp; done) | (simp; omega))]; exact y3
          replace y4 : x11.cell? ⟨w.heap.size, 4, none⟩ = some (.slice a1 s.reps.length c1) := by rw [← hx11, World.cell?_setCell_other _ _ _ _ (by first | (simp; done) | (simp; omega))]; exact y4
          replace v0 : x11.cell? ⟨w.heap.size + 1, 0, none⟩ = some (.int .i64 0) := by rw [← hx11, World.cell?_setCell_other _ _ _ _ (by first | (simp; done) | (simp; omega))]; exact v0
          replace v1 : x11.cell? ⟨w.heap.size + 1, 1, none⟩ = some (.int .i64 0) := by rw [← hx11, World.cell?_setCell_other _ _ _ _ (by first | (simp; done) | (simp; omega))]; exact v1
          replace v2 : x11.cell? ⟨w.heap.size + 1, 2, none⟩ = some (.slice none 0 0) := by rw [← hx11, World.cell?_setCell_other _ _ _ _ (by first | (simp; done) | (simp; omega))]; exact v2
          replace v3 : x11.cell? ⟨w.heap.size + 1, 3, none⟩ = some (.int .i64 0) := by rw [← hx11, World.cell?_setCell_other _ _ _ _ (by first | (simp; done) | (simp; omega))]; exact v3
          replace v4 : x11.cell? ⟨w.heap.size + 1, 4, none⟩ = some (.slice none 0 0) := by rw [← hx11, World.cell?_setCell_other _ _ _ _ (by first | (simp; done) | (simp; omega))]; exact v4
          replace vf : ∀ o, x11.frozen? ⟨w.heap.size + 1, o, none⟩ = false := fun o => by rw [← hx11]; simp [go_sem, vf]
          clear hx11 HX p3'
          have BD : Below x11.heap.size x11 x11.drew := (Below.refl _ _).drew
          have kk : x11.drew.cell? ⟨w2.heap.size, 0, none⟩ = some (.int .i64 s.epoch) ∧ x11.drew.cell? ⟨w2.heap.size, 1, none⟩ = some (.int .i64 s.leader) ∧ x11.drew.cell? ⟨w2.heap.size, 2, none⟩ = some (.slice bv (stps s s.reps.length).length dv) ∧ x11.drew.cell? ⟨w2.heap.size, 3, none⟩ = some (.int .i64 (lg.length : Int)) ∧ x11.drew.cell? ⟨w2.heap.size, 4, none⟩ = some (.slice (some ⟨R, 0, none⟩) s.reps.length c1') ∧ x11.drew.cell? ⟨w.heap.size, 3, none⟩ = some (.int .i64 s.high) := ⟨celB BD p0, celB BD p1, celB BD p2, celB BD p3, celB BD p4, celB BD y3⟩
          have hws : IntKind.i64.wrap ((lg.length : Int) - s.high) = (lg.length : Int) - s.high := by rw [IntKind.wrap_i64]; omega
          refine wp_region_noPanic ?_
          refine wp_region_held_drew (S := fun w' => w'.cell? ⟨w2.heap.size, 0, none⟩ = some (.int .i64 s.epoch) ∧ w'.cell? ⟨w2.heap.size, 1, none⟩ = some (.int .i64 s.leader) ∧ w'.cell? ⟨w2.heap.size, 2, none⟩ = some (.slice bv (stps s s.reps.length).length dv) ∧ w'.cell? ⟨w2.heap.size, 3, none⟩ = some (.int .i64 (lg.length : Int)) ∧ w'.cell? ⟨w2.heap.size, 4, none⟩ = some (.slice (some ⟨R, 0, none⟩) s.reps.length c1') ∧ w'.cell? ⟨w.heap.size, 3, none⟩ = some (.int .i64 s.high)) (by kernel_rfl) kk (fun hH => ?_)
          refine wpAnyH_take (i := 0) (oi := ⟨_, _, _, _, _, _⟩) (v := ?vz10) rfl (by kernel_rfl) (by kernel_rfl) (by kernel_rfl) (fun _ _ _ h => h) (Or.inl ⟨by rfl, ?yz10⟩) (by assumption) ?rz10
          case yz10 => intro w hSw; (try dsimp only at hSw); go_simp; try with_reducible rfl
          try simp only [Act.put, List.setIfInBounds_toArray, List.set_cons_zero, List.set_cons_succ]
          refine wpAnyH_take (i := 2) (oi := ⟨_, _, _, _, _, _⟩) (v := ?vz12) rfl (by kernel_rfl) (by kernel_rfl) (by kernel_rfl) (fun _ _ _ h => h) (Or.inl ⟨by rfl, ?yz12⟩) (by assumption) ?rz12
          case yz12 => intro w hSw; (try dsimp only at hSw); go_simp; try with_reducible rfl
          try simp only [Act.put, List.setIfInBounds_toArray, List.set_cons_zero, List.set_cons_succ]
          refine wpAnyH_take (i := 3) (oi := ⟨_, _, _, _, _, _⟩) (v := ?vz13) rfl (by kernel_rfl) (by kernel_rfl) (by kernel_rfl) (fun _ _ _ h => h) (Or.inl ⟨by rfl, ?yz13⟩) (by assumption) ?rz13
          case yz13 => intro w hSw; (try dsimp only at hSw); go_simp; try with_reducible rfl
          try simp only [Act.put, List.setIfInBounds_toArray, List.set_cons_zero, List.set_cons_succ]
          refine wpAnyH_take (i := 4) (oi := ⟨_, _, _, _, _, _⟩) (v := ?vz14) rfl (by kernel_rfl) (by kernel_rfl) (by kernel_rfl) (fun _ _ _ h => h) (Or.inl ⟨by rfl, ?yz14⟩) (by assumption) ?rz14
          case yz14 => intro w hSw; (try dsimp only at hSw); go_simp; try with_reducible rfl
          try simp only [Act.put, List.setIfInBounds_toArray, List.set_cons_zero, List.set_cons_succ]
          refine wpAnyH_take (i := 5) (oi := ⟨_, _, _, _, _, _⟩) (v := ?vz15) rfl (by kernel_rfl) (by kernel_rfl) (by kernel_rfl) (fun _ _ _ h => h) (Or.inl ⟨by rfl, ?yz15⟩) (by assumption) ?rz15
          case yz15 => intro w hSw; (try dsimp only at hSw); go_simp; try with_reducible rfl
          try simp only [Act.put, List.setIfInBounds_toArray, List.set_cons_zero, List.set_cons_succ]
          refine wpAnyH_take (i := 6) (oi := ⟨_, _, _, _, _, _⟩) (v := ?vz16) rfl (by kernel_rfl) (by kernel_rfl) (by kernel_rfl) (fun _ _ _ h => h) (Or.inl ⟨by rfl, ?yz16⟩) (by assumption) ?rz16
          case yz16 => intro w hSw; (try dsimp only at hSw); go_simp; try with_reducible rfl
          try simp only [Act.put, List.setIfInBounds_toArray, List.set_cons_zero, List.set_cons_succ]
          refine wpAnyH_ready (rs := [1]) (by kernel_rfl) (by simp) ?_
          refine AllReadyH.cons (o := ⟨_, _, _, _, _, _⟩) rfl (fun KK hK => ?_) AllReadyH.nil
          go_simp
          rw [← HV.out]
          refine (l11Own_any ⟨s.epoch, s.leader, stps s s.reps.length, (lg.length : Int), stR s lg f s.reps.length⟩ _ _ _ _ _ (hGz.below BD).reads (by show (stps s _).length ≤ _; have := stps_len s s.reps.length; omega) (by show (stR s lg f _).length ≤ _; rw [stR_len]; omega) (by show 0 < (stR s lg f _).length; rw [stR_len]; exact h0n) (stG_log (k := s.reps.length) HLOG.out hh30)).mono ?_
          rintro r w12 ⟨e0, e1, R2, e2, qs2, hr, hG12, -, hB12⟩
          rw [HV2.out] at hr
          subst hr
          have kk12 : w12.cell? ⟨w2.heap.size, 0, none⟩ = some (.int .i64 s.epoch) ∧ w12.cell? ⟨w2.heap.size, 1, none⟩ = some (.int .i64 s.leader) ∧ w12.cell? ⟨w2.heap.size, 2, none⟩ = some (.slice bv (stps s s.reps.length).length dv) ∧ w12.cell? ⟨w2.heap.size, 3, none⟩ = some (.int .i64 (lg.length : Int)) ∧ w12.cell? ⟨w2.heap.size, 4, none⟩ = some (.slice (some ⟨R, 0, none⟩) s.reps.length c1') ∧ w12.cell? ⟨w.heap.size, 3, none⟩ = some (.int .i64 s.high) := ⟨celB hB12 kk.1, celB hB12 kk.2.1, celB hB12 kk.2.2.1, celB hB12 kk.2.2.2.1, celB hB12 kk.2.2.2.2.1, celB hB12 kk.2.2.2.2.2⟩
          have B12 := stGr BD hB12
          have hz12 := hB12.size
          have u0 := celB B12 v0
          have u1 := celB B12 v1
          have u2 := celB B12 v2
          have u3 := celB B12 v3
          have u4 := celB B12 v4
          have uf : ∀ o, w12.frozen? ⟨w.heap.size + 1, o, none⟩ = false := fun o => frzB B12 (by omega) (vf o)
          have HR12 : Hid (GrR w12 ⟨s.epoch, s.leader, stps s s.reps.length, (lg.length : Int), stR s lg f s.reps.length⟩ e0 (some ⟨R2, 0, none⟩)) := hG12.reads
          have hlo := hG12
          clear hB12
          go_wp2_with fail
          refine hK.out _ _ kk12 (fun hH1 => ?_)
          clear hK KK hH
          try simp only [Act.put, List.setIfInBounds_toArray, List.set_cons_zero, List.set_cons_succ]
          refine wpAnyH_ready (rs := [7]) (by kernel_rfl) (by simp) ?_
          refine AllReadyH.cons (o := ⟨_, _, _, _, _, _⟩) rfl (fun KK hK => ?_) AllReadyH.nil
          skip
          have kkS : (((((w12.setCell ⟨w.heap.size + 1, 0, none⟩ (.int .i64 s.epoch)).setCell ⟨w.heap.size + 1, 1, none⟩ (.int .i64 s.leader)).setCell ⟨w.heap.size + 1, 2, none⟩ (.slice e0 (stps s s.reps.length).length e1)).setCell ⟨w.heap.size + 1, 3, none⟩ (.int .i64 (lg.length : Int))).setCell ⟨w.heap.size + 1, 4, none⟩ (.slice (some ⟨R2, 0, none⟩) s.reps.length e2)).cell? ⟨w2.heap.size, 0, none⟩ = some (.int .i64 s.epoch) ∧ (((((w12.setCell ⟨w.heap.size + 1, 0, none⟩ (.int .i64 s.epoch)).setCell ⟨w.heap.size + 1, 1, none⟩ (.int .i64 s.leader)).setCell ⟨w.heap.size + 1, 2, none⟩ (.slice e0 (stps s s.reps.length).length e1)).setCell ⟨w.heap.size + 1, 3, none⟩ (.int .i64 (lg.length : Int))).setCell ⟨w.heap.size + 1, 4, none⟩ (.slice (some ⟨R2, 0, none⟩) s.reps.length e2)).cell? ⟨w2.heap.size, 1, none⟩ = some (.int .i64 s.leader) ∧ (((((w12.setCell ⟨w.heap.size + 1, 0, none⟩ (.int .i64 s.epoch)).setCell ⟨w.heap.size + 1, 1, none⟩ (.int .i64 s.leader)).setCell ⟨w.heap.size + 1, 2, none⟩ (.slice e0 (stps s s.reps.length).length e1)).setCell ⟨w.heap.size + 1, 3, none⟩ (.int .i64 (lg.length : Int))).setCell ⟨w.heap.size + 1, 4, none⟩ (.slice (some ⟨R2, 0, none⟩) s.reps.length e2)).cell? ⟨w2.heap.size, 2, none⟩ = some (.slice bv (stps s s.reps.length).length dv) ∧ (((((w12.setCell ⟨w.heap.size + 1, 0, none⟩ (.int .i64 s.epoch)).setCell ⟨w.heap.size + 1, 1, none⟩ (.int .i64 s.leader)).setCell ⟨w.heap.size + 1, 2, none⟩ (.slice e0 (stps s s.reps.length).length e1)).setCell ⟨w.heap.size + 1, 3, none⟩ (.int .i64 (lg.length : Int))).setCell ⟨w.heap.size + 1, 4, none⟩ (.slice (some ⟨R2, 0, none⟩) s.reps.length e2)).cell? ⟨w2.heap.size, 3, none⟩ = some (.int .i64 (lg.length : Int)) ∧ (((((w12.setCell ⟨w.heap.size + 1, 0, none⟩ (.int .i64 s.epoch)).setCell ⟨w.heap.size + 1, 1, none⟩ (.int .i64 s.leader)).setCell ⟨w.heap.size + 1, 2, none⟩ (.slice e0 (stps s s.reps.length).length e1)).setCell ⟨w.heap.size + 1, 3, none⟩ (.int .i64 (lg.length : Int))).setCell ⟨w.heap.size + 1, 4, none⟩ (.slice (some ⟨R2, 0, none⟩) s.reps.length e2)).cell? ⟨w2.heap.size, 4, none⟩ = some (.slice (some ⟨R, 0, none⟩) s.reps.length c1') ∧ (((((w12.setCell ⟨w.heap.size + 1, 0, none⟩ (.int .i64 s.epoch)).setCell ⟨w.heap.size + 1, 1, none⟩ (.int .i64 s.leader)).setCell ⟨w.heap.size + 1, 2, none⟩ (.slice e0 (stps s s.reps.length).length e1)).setCell ⟨w.heap.size + 1, 3, none⟩ (.int .i64 (lg.length : Int))).setCell ⟨w.heap.size + 1, 4, none⟩ (.slice (some ⟨R2, 0, none⟩) s.reps.length e2)).cell? ⟨w.heap.size, 3, none⟩ = some (.int .i64 s.high) := ⟨by rw [World.cell?_setCell_other _ _ _ _ (by first | (simp; done) | (simp; omega)), World.cell?_setCell_other _ _ _ _ (by first | (simp; done) | (simp; omega)), World.cell?_setCell_other _ _ _ _ (by first | (simp; done) | (simp; omega)), World.cell?_setCell_other _ _ _ _ (by first | (simp; done) | (simp; omega)), World.cell?_setCell_other _ _ _ _ (by first | (simp; done) | (simp; omega))]; exact kk12.1, by rw [World.cell?_setCell_other _ _ _ _ (by first | (simp; done) | (simp; omega)), World.cell?_setCell_other _ _ _ _ (by first | (simp; done) | (simp; omega)), World.cell?_setCell_other _ _ _ _ (by first | (simp; done) | (simp; omega)), World.cell?_setCell_other _ _ _ _ (by first | (simp; done) | (simp; omega)), World.cell?_setCell_other _ _ _ _ (by first | (simp; done) | (simp; omega))]; exact kk12.2.1, by rw [World.cell?_setCell_other _ _ _ _ (by first | (simp; done) | (simp; omega)), World.cell?_setCell_other _ _ _ _ (by first | (simp; done) | (simp; omega)), World.cell?_setCell_other _ _ _ _ (by first | (simp; done) | (simp; omega)), World.cell?_setCell_other _ _ _ _ (by first | (simp; done) | (simp; omega)), World.cell?_setCell_other _ _ _ _ (by first | (simp; done) | (simp; omega))]; exact kk12.2.2.1, by rw [World.cell?_setCell_other _ _ _ _ (by first | (simp; done) | (simp; omega)), World.cell?_setCell_other _ _ _ _ (by first | (simp; done) | (simp; omega)), World.cell?_setCell_other _ _ _ _ (by first | (simp; done) | (simp; omega)), World.cell?_setCell_other _ _ _ _ (by first | (simp; done) | (simp; omega)), World.cell?_setCell_other _ _ _ _ (by first | (simp; done) | (simp; omega))]; exact kk12.2.2.2.1, by rw [World.cell?_setCell_other _ _ _ _ (by first | (simp; done) | (simp; omega)), World.cell?_setCell_other _ _ _ _ (by first | (simp; done) | (simp; omega)), World.cell?_setCell_other _ _ _ _ (by first | (simp; done) | (simp; omega)), World.cell?_setCell_other _ _ _ _ (by first | (simp; done) | (simp; omega)), World.cell?_setCell_other _ _ _ _ (by first | (simp; done) | (simp; omega))]; exact kk12.2.2.2.2.1, by rw [World.cell?_setCell_other _ _ _ _ (by first | (simp; done) | (simp; omega)), World.cell?_setCell_other _ _ _ _ (by first | (simp; done) | (simp; omega)), World.cell?_setCell_other _ _ _ _ (by first | (simp; done) | (simp; omega)), World.cell?_setCell_other _ _ _ _ (by first | (simp; done) | (simp; omega)), World.cell?_setCell_other _ _ _ _ (by first | (simp; done) | (simp; omega))]; exact kk12.2.2.2.2.2⟩
          go_simp
          refine hK.out _ _ kkS (fun hH7 => ?_)
          clear hK KK hH1
          try simp only [Act.put, List.setIfInBounds_toArray, List.set_cons_zero, List.set_cons_succ]
          refine wpAnyH_take (i := 8) (oi := ⟨_, _, _, _, _, _⟩) (v := ?vz18) rfl (by kernel_rfl) (by kernel_rfl) (by kernel_rfl) (fun _ _ _ h => h) (Or.inl ⟨by rfl, ?yz18⟩) (by assumption) ?rz18
          case yz18 => intro w hSw; (try dsimp only at hSw); go_simp; try with_reducible rfl
          try simp only [Act.put, List.setIfInBounds_toArray, List.set_cons_zero, List.set_cons_succ]
          refine wpAnyH_take (i := 9) (oi := ⟨_, _, _, _, _, _⟩) (v := ?vz19) rfl (by kernel_rfl) (by kernel_rfl) (by kernel_rfl) (fun _ _ _ h => h) (Or.inl ⟨by rfl, ?yz19⟩) (by assumption) ?rz19
          case yz19 => intro w hSw; (try dsimp only at hSw); go_simp; try with_reducible rfl
          try simp only [Act.put, List.setIfInBounds_toArray, List.set_cons_zero, List.set_cons_succ]
          refine wpAnyH_done (by kernel_rfl) (NoPanic.normal ?_) _
          have BZ : Below w.heap.size w w12 := B10.trans (B12.mono (by omega))
          have HRz : Hid (GrR (((((w12.setCell ⟨w.heap.size + 1, 0, none⟩ (.int .i64 s.epoch)).setCell ⟨w.heap.size + 1, 1, none⟩ (.int .i64 s.leader)).setCell ⟨w.heap.size + 1, 2, none⟩ (.slice e0 (stps s s.reps.length).length e1)).setCell ⟨w.heap.size + 1, 3, none⟩ (.int .i64 (lg.length : Int))).setCell ⟨w.heap.size + 1, 4, none⟩ (.slice (some ⟨R2, 0, none⟩) s.reps.length e2)) ⟨s.epoch, s.leader, stps s s.reps.length, (lg.length : Int), stR s lg f s.reps.length⟩ e0 (some ⟨R2, 0, none⟩)) := (((((hlo.setO (by have := BD.size; omega) _ _).setO (by have := BD.size; omega) _ _).setO (by have := BD.size; omega) _ _).setO (by have := BD.size; omega) _ _).setO (by have := BD.size; omega) _ _).reads
          clear hlo HR12 kk kk12 kkS
          go_wp2
          refine bodyPost_ret (v := .tuple #[.agg #[.int .i64 s.epoch, .int .i64 s.leader, .slice e0 (stps s s.reps.length).length e1, .int .i64 (lg.length : Int), .slice (some ⟨R2, 0, none⟩) s.reps.length e2], .int .i64 ((lg.length : Int) - s.high), .bool true]) (by simp [results, Tryd.results26, go_sem, u0, u1, u2, u3, u4]) rfl ⟨e0, some ⟨R2, 0, none⟩, e1, e2, ?_, ?_, ?_⟩
          · rw [HE.out.1, HE.out.2]; simp [iotaZ_len, stps_done hn4 HRI.out]
          · rw [HE.out.1, ← stps_done hn4 HRI.out, ← stR_done s lg f]; exact HRz.out
          · exact ((((BZ.setCell (by simp) _).setCell (by simp) _).setCell (by simp) _).setCell (by simp) _).setCell (by simp) _
        · have hEq0 : s.high = (lg.length : Int) := by omega
          have HEQ : Hid (s.high = (lg.length : Int)) := hEq0
          have hGz : Gow w10 w1.heap.size ⟨s.epoch, s.leader, stps s s.reps.length, (lg.length : Int), stR s lg f s.reps.length⟩ bv R qs := hG10.re rfl rfl
          have B10 := B10'
          have hgt' : (lg.length : Int) ≤ s.high := by omega
          clear hgt hEq0
          go_wp2_with fail
          rw [HEQ.out] at p3
          have BD : Below w10.heap.size w10 w10.drew := (Below.refl _ _).drew
          have kk : w10.drew.cell? ⟨w2.heap.size, 0, none⟩ = some (.int .i64 s.epoch) ∧ w10.drew.cell? ⟨w2.heap.size, 1, none⟩ = some (.int .i64 s.leader) ∧ w10.drew.cell? ⟨w2.heap.size, 2, none⟩ = some (.slice bv (stps s s.reps.length).length dv) ∧ w10.drew.cell? ⟨w2.heap.size, 3, none⟩ = some (.int .i64 (lg.length : Int)) ∧ w10.drew.cell? ⟨w2.heap.size, 4, none⟩ = some (.slice (some ⟨R, 0, none⟩) s.reps.length c1') ∧ w10.drew.cell? ⟨w.heap.size, 3, none⟩ = some (.int .i64 s.high) := ⟨celB BD p0, celB BD p1, celB BD p2, celB BD p3, celB BD p4, celB BD y3⟩
          have hws : IntKind.i64.wrap ((lg.length : Int) - s.high) = (lg.length : Int) - s.high := by rw [IntKind.wrap_i64]; omega
          refine wp_region_noPanic ?_
          refine wp_region_held_drew (S := fun w' => w'.cell? ⟨w2.heap.size, 0, none⟩ = some (.int .i64 s.epoch) ∧ w'.cell? ⟨w2.heap.size, 1, none⟩ = some (.int .i64 s.leader) ∧ w'.cell? ⟨w2.heap.size, 2, none⟩ = some (.slice bv (stps s s.reps.length).length dv) ∧ w'.cell? ⟨w2.heap.size, 3, none⟩ = some (.int .i64 (lg.length : Int)) ∧ w'.cell? ⟨w2.heap.size, 4, none⟩ = some (.slice (some ⟨R, 0, none⟩) s.reps.length c1') ∧ w'.cell? ⟨w.heap.size, 3, none⟩ = some (.int .i64 s.high)) (by kernel_rfl) kk (fun hH => ?_)
          refine wpAnyH_take (i := 0) (oi := ⟨_, _, _, _, _, _⟩) (v := ?vz20) rfl (by kernel_rfl) (by kernel_rfl) (by kernel_rfl) (fun _ _ _ h => h) (Or.inl ⟨by rfl, ?yz20⟩) (by assumption) ?rz20
          case yz20 => intro w hSw; (try dsimp only at hSw); go_simp; try with_reducible rfl
          try simp only [Act.put, List.setIfInBounds_toArray, List.set_cons_zero, List.set_cons_succ]
          refine wpAnyH_take (i := 2) (oi := ⟨_, _, _, _, _, _⟩) (v := ?vz22) rfl (by kernel_rfl) (by kernel_rfl) (by kernel_rfl) (fun _ _ _ h => h) (Or.inl ⟨by rfl, ?yz22⟩) (by assumption) ?rz22
          case yz22 => intro w hSw; (try dsimp only at hSw); go_simp; try with_reducible rfl
          try simp only [Act.put, List.setIfInBounds_toArray, List.set_cons_zero, List.set_cons_succ]
          refine wpAnyH_take (i := 3) (oi := ⟨_, _, _, _, _, _⟩) (v := ?vz23) rfl (by kernel_rfl) (by kernel_rfl) (by kernel_rfl) (fun _ _ _ h => h) (Or.inl ⟨by rfl, ?yz23⟩) (by assumption) ?rz23
          case yz23 => intro w hSw; (try dsimp only at hSw); go_simp; try with_reducible rfl
          try simp only [Act.put, List.setIfInBounds_toArray, List.set_cons_zero, List.set_cons_succ]
          refine wpAnyH_take (i := 4) (oi := ⟨_, _, _, _, _, _⟩) (v := ?vz24) rfl (by kernel_rfl) (by kernel_rfl) (by kernel_rfl) (fun _ _ _ h => h) (Or.inl ⟨by rfl, ?yz24⟩) (by assumption) ?rz24
          case yz24 => intro w hSw; (try dsimp only at hSw); go_simp; try with_reducible rfl
          try simp only [Act.put, List.setIfInBounds_toArray, List.set_cons_zero, List.set_cons_succ]
          refine wpAnyH_take (i := 5) (oi := ⟨_, _, _, _, _, _⟩) (v := ?vz25) rfl (by kernel_rfl) (by kernel_rfl) (by kernel_rfl) (fun _ _ _ h => h) (Or.inl ⟨by rfl, ?yz25⟩) (by assumption) ?rz25
          case yz25 => intro w hSw; (try dsimp only at hSw); go_simp; try with_reducible rfl
          try simp only [Act.put, List.setIfInBounds_toArray, List.set_cons_zero, List.set_cons_succ]
          refine wpAnyH_take (i := 6) (oi := ⟨_, _, _, _, _, _⟩) (v := ?vz26) rfl (by kernel_rfl) (by kernel_rfl) (by kernel_rfl) (fun _ _ _ h => h) (Or.inl ⟨by rfl, ?yz26⟩) (by assumption) ?rz26
          case yz26 => intro w hSw; (try dsimp only at hSw); go_simp; try with_reducible rfl
          try simp only [Act.put, List.setIfInBounds_toArray, List.set_cons_zero, List.set_cons_succ]
          refine wpAnyH_ready (rs := [1]) (by kernel_rfl) (by simp) ?_
          refine AllReadyH.cons (o := ⟨_, _, _, _, _, _⟩) rfl (fun KK hK => ?_) AllReadyH.nil
          go_simp
          rw [← HV.out]
          refine (l11Own_any ⟨s.epoch, s.leader, stps s s.reps.length, (lg.length : Int), stR s lg f s.reps.length⟩ _ _ _ _ _ (hGz.below BD).reads (by show (stps s _).length ≤ _; have := stps_len s s.reps.length; omega) (by show (stR s lg f _).length ≤ _; rw [stR_len]; omega) (by show 0 < (stR s lg f _).length; rw [stR_len]; exact h0n) (stG_log (k := s.reps.length) HLOG.out hh30)).mono ?_
          rintro r w12 ⟨e0, e1, R2, e2, qs2, hr, hG12, -, hB12⟩
          rw [HV2.out] at hr
          subst hr
          have kk12 : w12.cell? ⟨w2.heap.size, 0, none⟩ = some (.int .i64 s.epoch) ∧ w12.cell? ⟨w2.heap.size, 1, none⟩ = some (.int .i64 s.leader) ∧ w12.cell? ⟨w2.heap.size, 2, none⟩ = some (.slice bv (stps s s.reps.length).length dv) ∧ w12.cell? ⟨w2.heap.size, 3, none⟩ = some (.int .i64 (lg.length : Int)) ∧ w12.cell? ⟨w2.heap.size, 4, none⟩ = some (.slice (some ⟨R, 0, none⟩) s.reps.length c1') ∧ w12.cell? ⟨w.heap.size, 3, none⟩ = some (.int .i64 s.high) := ⟨celB hB12 kk.1, celB hB12 kk.2.1, celB hB12 kk.2.2.1, celB hB12 kk.2.2.2.1, celB hB12 kk.2.2.2.2.1, celB hB12 kk.2.2.2.2.2⟩
          have B12 := stGr BD hB12
          have hz12 := hB12.size
          have u0 := celB B12 v0
          have u1 := celB B12 v1
          have u2 := celB B12 v2
          have u3 := celB B12 v3
          have u4 := celB B12 v4
          have uf : ∀ o, w12.frozen? ⟨w.heap.size + 1, o, none⟩ = false := fun o => frzB B12 (by omega) (vf o)
          have HR12 : Hid (GrR w12 ⟨s.epoch, s.leader, stps s s.reps.length, (lg.length : Int), stR s lg f s.reps.length⟩ e0 (some ⟨R2, 0, none⟩)) := hG12.reads
          have hlo := hG12
          clear hB12
          go_wp2_with fail
          refine hK.out _ _ kk12 (fun hH1 => ?_)
          clear hK KK hH
          try simp only [Act.put, List.setIfInBounds_toArray, List.set_cons_zero, List.set_cons_succ]
          refine wpAnyH_ready (rs := [7]) (by kernel_rfl) (by simp) ?_
          refine AllReadyH.cons (o := ⟨_, _, _, _, _, _⟩) rfl (fun KK hK => ?_) AllReadyH.nil
          skip
          have kkS : (((((w12.setCell ⟨w.heap.size + 1, 0, none⟩ (.int .i64 s.epoch)).setCell ⟨w.heap.size + 1, 1, none⟩ (.int .i64 s.leader)).setCell ⟨w.heap.size + 1, 2, none⟩ (.slice e0 (stps s s.reps.length).length e1)).setCell ⟨w.heap.size + 1, 3, none⟩ (.int .i64 (lg.length : Int))).setCell ⟨w.heap.size + 1, 4, none⟩ (.slice (some ⟨R2, 0, none⟩) s.reps.length e2)).cell? ⟨w2.heap.size, 0, none⟩ = some (.int .i64 s.epoch) ∧ (((((w12.setCell ⟨w.heap.size + 1, 0, none⟩ (.int .i64 s.epoch)).setCell ⟨w.heap.size + 1, 1, none⟩ (.int .i64 s.leader)).setCell ⟨w.heap.size + 1, 2, none⟩ (.slice e0 (stps s s.reps.length).length e1)).setCell ⟨w.heap.size + 1, 3, none⟩ (.int .i64 (lg.length : Int))).setCell ⟨w.heap.size + 1, 4, none⟩ (.slice (some ⟨R2, 0, none⟩) s.reps.length e2)).cell? ⟨w2.heap.size, 1, none⟩ = some (.int .i64 s.leader) ∧ (((((w12.setCell ⟨w.heap.size + 1, 0, none⟩ (.int .i64 s.epoch)).setCell ⟨w.heap.size + 1, 1, none⟩ (.int .i64 s.leader)).setCell ⟨w.heap.size + 1, 2, none⟩ (.slice e0 (stps s s.reps.length).length e1)).setCell ⟨w.heap.size + 1, 3, none⟩ (.int .i64 (lg.length : Int))).setCell ⟨w.heap.size + 1, 4, none⟩ (.slice (some ⟨R2, 0, none⟩) s.reps.length e2)).cell? ⟨w2.heap.size, 2, none⟩ = some (.slice bv (stps s s.reps.length).length dv) ∧ (((((w12.setCell ⟨w.heap.size + 1, 0, none⟩ (.int .i64 s.epoch)).setCell ⟨w.heap.size + 1, 1, none⟩ (.int .i64 s.leader)).setCell ⟨w.heap.size + 1, 2, none⟩ (.slice e0 (stps s s.reps.length).length e1)).setCell ⟨w.heap.size + 1, 3, none⟩ (.int .i64 (lg.length : Int))).setCell ⟨w.heap.size + 1, 4, none⟩ (.slice (some ⟨R2, 0, none⟩) s.reps.length e2)).cell? ⟨w2.heap.size, 3, none⟩ = some (.int .i64 (lg.length : Int)) ∧ (((((w12.setCell ⟨w.heap.size + 1, 0, none⟩ (.int .i64 s.epoch)).setCell ⟨w.heap.size + 1, 1, none⟩ (.int .i64 s.leader)).setCell ⟨w.heap.size + 1, 2, none⟩ (.slice e0 (stps s s.reps.length).length e1)).setCell ⟨w.heap.size + 1, 3, none⟩ (.int .i64 (lg.length : Int))).setCell ⟨w.heap.size + 1, 4, none⟩ (.slice (some ⟨R2, 0, none⟩) s.reps.length e2)).cell? ⟨w2.heap.size, 4, none⟩ = some (.slice (some ⟨R, 0, none⟩) s.reps.length c1') ∧ (((((w12.setCell ⟨w.heap.size + 1, 0, none⟩ (.int .i64 s.epoch)).setCell ⟨w.heap.size + 1, 1, none⟩ (.int .i64 s.leader)).setCell ⟨w.heap.size + 1, 2, none⟩ (.slice e0 (stps s s.reps.length).length e1)).setCell ⟨w.heap.size + 1, 3, none⟩ (.int .i64 (lg.length : Int))).setCell ⟨w.heap.size + 1, 4, none⟩ (.slice (some ⟨R2, 0, none⟩) s.reps.length e2)).cell? ⟨w.heap.size, 3, none⟩ = some (.int .i64 s.high) := ⟨by rw [World.cell?_setCell_other _ _ _ _ (by first | (simp; done) | (simp; omega)), World.cell?_setCell_other _ _ _ _ (by first | (simp; done) | (simp; omega)), World.cell?_setCell_other _ _ _ _ (by first | (simp; done) | (simp; omega)), World.cell?_setCell_other _ _ _ _ (by first | (simp; done) | (simp; omega)), World.cell?_setCell_other _ _ _ _ (by first | (simp; done) | (simp; omega))]; exact kk12.1, by rw [World.cell?_setCell_other _ _ _ _ (by first | (simp; done) | (simp; omega)), World.cell?_setCell_other _ _ _ _ (by first | (simp; done) | (simp; omega)), World.cell?_setCell_other _ _ _ _ (by first | (simp; done) | (simp; omega)), World.cell?_setCell_other _ _ _ _ (by first | (simp; done) | (simp; omega)), World.cell?_setCell_other _ _ _ _ (by first | (simp; done) | (simp; omega))]; exact kk12.2.1, by rw [World.cell?_setCell_other _ _ _ _ (by first | (simp; done) | (simp; omega)), World.cell?_setCell_other _ _ _ _ (by first | (simp; done) | (simp; omega)), World.cell?_setCell_other _ _ _ _ (by first | (simp; done) | (simp; omega)), World.cell?_setCell_other _ _ _ _ (by first | (simp; done) | (simp; omega)), World.cell?_setCell_other _ _ _ _ (by first | (simp; done) | (simp; omega))]; exact kk12.2.2.1, by rw [World.cell?_setCell_other _ _ _ _ (by first | (simp; done) | (simp; omega)), World.cell?_setCell_other _ _ _ _ (by first | (simp; done) | (simp; omega)), World.cell?_setCell_other _ _ _ _ (by first | (simp; done) | (simp; omega)), World.cell?_setCell_other _ _ _ _ (by first | (simp; done) | (simp; omega)), World.cell?_setCell_other _ _ _ _ (by first | (simp; done) | (simp; omega))]; exact kk12.2.2.2.1, by rw [World.cell?_setCell_other _ _ _ _ (by first | (simp; done) | (simp; omega)), World.cell?_setCell_other _ _ _ _ (by first | (simp; done) | (simp; omega)), World.cell?_setCell_other _ _ _ _ (by first | (simp; done) | (simp; omega)), World.cell?_setCell_other _ _ _ _ (by first | (simp; done) | (simp; omega)), World.cell?_setCell_other _ _ _ _ (by first | (simp; done) | (simp; omega))]; exact kk12.2.2.2.2.1, by rw [World.cell?_setCell_other _ _ _ _ (by first | (simp; done) | (simp; omega)), World.cell?_setCell_other _ _ _ _ (by first | (simp; done) | (simp; omega)), World.cell?_setCell_other _ _ _ _ (by first | (simp; done) | (simp; omega)), World.cell?_setCell_other _ _ _ _ (by first | (simp; done) | (simp; omega)), World.cell?_setCell_other _ _ _ _ (by first | (simp; done) | (simp; omega))]; exact kk12.2.2.2.2.2⟩
          go_simp
          refine hK.out _ _ kkS (fun hH7 => ?_)
          clear hK KK hH1
          try simp only [Act.put, List.setIfInBounds_toArray, List.set_cons_zero, List.set_cons_succ]
          refine wpAnyH_take (i := 8) (oi := ⟨_, _, _, _, _, _⟩) (v := ?vz28) rfl (by kernel_rfl) (by kernel_rfl) (by kernel_rfl) (fun _ _ _ h => h) (Or.inl ⟨by rfl, ?yz28⟩) (by assumption) ?rz28
          case yz28 => intro w hSw; (try dsimp only at hSw); go_simp; try with_reducible rfl
          try simp only [Act.put, List.setIfInBounds_toArray, List.set_cons_zero, List.set_cons_succ]
          refine wpAnyH_take (i := 9) (oi := ⟨_, _, _, _, _, _⟩) (v := ?vz29) rfl (by kernel_rfl) (by kernel_rfl) (by kernel_rfl) (fun _ _ _ h => h) (Or.inl ⟨by rfl, ?yz29⟩) (by assumption) ?rz29
          case yz29 => intro w hSw; (try dsimp only at hSw); go_simp; try with_reducible rfl
          try simp only [Act.put, List.setIfInBounds_toArray, List.set_cons_zero, List.set_cons_succ]
          refine wpAnyH_done (by kernel_rfl) (NoPanic.normal ?_) _
          have BZ : Below w.heap.size w w12 := B10.trans (B12.mono (by omega))
          have HRz : Hid (GrR (((((w12.setCell ⟨w.heap.size + 1, 0, none⟩ (.int .i64 s.epoch)).setCell ⟨w.heap.size + 1, 1, none⟩ (.int .i64 s.leader)).setCell ⟨w.heap.size + 1, 2, none⟩ (.slice e0 (stps s s.reps.length).length e1)).setCell ⟨w.heap.size + 1, 3, none⟩ (.int .i64 (lg.length : Int))).setCell ⟨w.heap.size + 1, 4, none⟩ (.slice (some ⟨R2, 0, none⟩) s.reps.length e2)) ⟨s.epoch, s.leader, stps s s.reps.length, (lg.length : Int), stR s lg f s.reps.length⟩ e0 (some ⟨R2, 0, none⟩)) := (((((hlo.setO (by have := BD.size; omega) _ _).setO (by have := BD.size; omega) _ _).setO (by have := BD.size; omega) _ _).setO (by have := BD.size; omega) _ _).setO (by have := BD.size; omega) _ _).reads
          clear hlo HR12 kk kk12 kkS
          go_wp2
          refine bodyPost_ret (v := .tuple #[.agg #[.int .i64 s.epoch, .int .i64 s.leader, .slice e0 (stps s s.reps.length).length e1, .int .i64 (lg.length : Int), .slice (some ⟨R2, 0, none⟩) s.reps.length e2], .int .i64 ((lg.length : Int) - s.high), .bool true]) (by simp [results, Tryd.results26, go_sem, u0, u1, u2, u3, u4]) rfl ⟨e0, some ⟨R2, 0, none⟩, e1, e2, ?_, ?_, ?_⟩
          · rw [HE.out.1, HE.out.2]; simp [iotaZ_len, stps_done hn4 HRI.out]
          · rw [HE.out.1, ← stps_done hn4 HRI.out, ← stR_done s lg f]; exact HRz.out
          · exact ((((BZ.setCell (by simp) _).setCell (by simp) _).setCell (by simp) _).setCell (by simp) _).setCell (by simp) _

end Go.Proofs.YtkhbgdnhkaeamaaDoor
