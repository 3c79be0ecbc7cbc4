/-
  SettleGroup, the specification's side: who is in step, one more a round; a fetch of all.
-/
import Derived.Test.YtkhbgdnhkaeamaaDoorOgS2
import Derived.Test.YtkhbgdnhkaeamaaDoorGrI6
namespace Go.Proofs.YtkhbgdnhkaeamaaDoor
open Go.RowKit

theorem put_mi : ∀ k : Nat, k < 4 → ∀ x : Nat, x < 16 → putL (mi x) (k : Int) = mi (x ||| 2 ^ k) := by decide +kernel
theorem or_step : ∀ k : Nat, k < 4 → ∀ x : Nat, x < 16 → x ||| (2 ^ k - 1) ||| 2 ^ k = x ||| (2 ^ (k + 1) - 1) ∧ x ||| (2 ^ k - 1) < 16 := by decide +kernel
theorem or_all : ∀ n : Nat, n < 5 → ∀ x : Nat, x < 16 → (∀ i ∈ mem7 x, i < n) → mi (x ||| (2 ^ n - 1)) = iotaZ n := by decide +kernel
theorem lt16 : ∀ x, x < 128 → (∀ i ∈ mem7 x, i < 4) → x < 16 := by decide +kernel
theorem mi_msk {l : List Int} {many : Int} (hm : many ≤ 7) (h : riseB l many = true) : mi (msk l) = l := by
  unfold mi
  rw [(mem7_msk hm h).1, List.map_map]
  conv => rhs; rw [← List.map_id l]
  apply List.map_congr_left
  intro z hz
  have := rise_mem h hz
  simp only [Function.comp_apply, id_eq]
  omega

/-- Those in step behind k rounds. -/
def stps (s : Gr) (k : Nat) : List Int := mi (msk s.steps ||| (2 ^ k - 1))
theorem msk16 {s : Gr} (hn : s.reps.length ≤ 4) (h : riseB s.steps s.reps.length = true) : msk s.steps < 16 ∧ ∀ i ∈ mem7 (msk s.steps), i < s.reps.length := by
  have hm : ∀ i ∈ mem7 (msk s.steps), i < s.reps.length := fun i hi => by
    have := rise_mem h ((mem_msk (by omega) h).1 hi)
    omega
  exact ⟨lt16 _ (mem7_msk (by omega) h).2 (fun i hi => by have := hm i hi; omega), hm⟩
theorem stps_zero {s : Gr} (hn : s.reps.length ≤ 4) (h : riseB s.steps s.reps.length = true) : stps s 0 = s.steps := by
  unfold stps
  rw [show msk s.steps ||| (2 ^ 0 - 1) = msk s.steps by simp]
  exact mi_msk (by omega) h
theorem stps_succ {s : Gr} {k : Nat} (hn : s.reps.length ≤ 4) (h : riseB s.steps s.reps.length = true) (hk : k < s.reps.length) : putL (stps s k) (k : Int) = stps s (k + 1) := by
  have hx := (msk16 hn h).1
  unfold stps
  rw [put_mi k (by omega) _ (or_step k (by omega) _ hx).2, (or_step k (by omega) _ hx).1]
theorem stps_done {s : Gr} (hn : s.reps.length ≤ 4) (h : riseB s.steps s.reps.length = true) : stps s s.reps.length = iotaZ s.reps.length := by
  have hx := msk16 hn h
  exact or_all _ (by omega) _ hx.1 hx.2
theorem stps_len (s : Gr) (k : Nat) : (stps s k).length ≤ 7 := mi_len _

def stH (s : Gr) (lg : List Rw) (f k j : Nat) : Gr := ⟨s.epoch, s.leader, stps s j, s.high, stR s lg f k⟩
theorem stH_val (s : Gr) (lg : List Rw) (f k j : Nat) (a0 a1 : Option Addr) (c0 c1 : Nat) : grV (stH s lg f k j) a0 c0 a1 c1 = .agg #[.int .i64 s.epoch, .int .i64 s.leader, .slice a0 (stps s j).length c0, .int .i64 s.high, .slice a1 s.reps.length c1] := by simp [stH, stR_len]
theorem stH_put {s : Gr} {lg : List Rw} {f k j : Nat} (hk : k < s.reps.length) : upN (stH s lg f k j) k lg = stH s lg f (k + 1) j := by
  unfold upN putR stH
  have := stR_step (lg := lg) (f := f) hk
  simp only [rpN] at this ⊢
  rw [this]
theorem stH_skip (s : Gr) (lg : List Rw) (f j : Nat) : stH s lg f f j = stH s lg f (f + 1) j := by unfold stH; rw [stR_skip]
theorem stH_zero {s : Gr} (lg : List Rw) (f : Nat) (hn : s.reps.length ≤ 4) (h : riseB s.steps s.reps.length = true) : upN s f lg = stH s lg f 0 0 := by
  unfold upN putR stH
  rw [← stR_zero, stps_zero hn h]; rfl

/-- Lists of numbers and rows of replicas lie in blocks of their own kinds. -/
theorem rowI_ne {w : World} {B B' R k n b : Nat} {a : Option Addr} {qs : List Rq} (h : RowI w B a n) (ho : Ogk w B' R k qs) (hi : InI a n b) : b ≠ R := by
  obtain ⟨hn, o, s, e⟩ := hi
  rcases h with h | ⟨g, m, f, ea, -, -, hr⟩
  · omega
  · rw [ea] at e
    simp only [Option.some.injEq, Addr.mk.injEq] at e
    obtain ⟨rfl, -, -⟩ := e
    rintro rfl
    obtain ⟨m', f', -, hr', -⟩ := ho.row
    obtain ⟨cur, h1, -⟩ := hr
    obtain ⟨cur', h2, -⟩ := hr'
    rw [h1] at h2
    simp only [Option.some.injEq, Obj.cells.injEq] at h2
    exact absurd h2.2.1 (by decide)

theorem owns_oth {w w' : World} {B : Nat} {t : TypeId} {size n : Nat} {v : Value} {xs : List Value} (h : w.ownsRow B t size v n xs) (hb : ∀ b, v.ownBlock = some b → w'.heap[b]? = w.heap[b]?) : w'.ownsRow B t size v n xs := by
  obtain ⟨o1, o2⟩ := h
  exact ⟨o1, o2.imp id fun ⟨g', cap', cur, hv, hg, hh, r⟩ => ⟨g', cap', cur, hv, hg, (hb g' (by rw [hv]; simp [Value.ownBlock])).trans hh, r⟩⟩

theorem fetchH (s : Gr) (lg : List Rw) (f k j B R : Nat) (qs : List Rq) (a0 : Option Addr) (c0 c1 : Nat) (w : World) (h : Gow w B (stH s lg f k j) a0 R qs) (hf : s.leader = f) (hfn : f < s.reps.length) (hk : k < s.reps.length) (hn : s.reps.length ≤ 4) (h30 : lg.length ≤ 30) :
    Calls Tryd.prog 54 #[.agg #[.int .i64 s.epoch, .int .i64 s.leader, .slice a0 (stps s j).length c0, .int .i64 s.high, .slice (some ⟨R, 0, none⟩) s.reps.length c1], .int .i64 (k : Int), .int .i64 30] w fun r w' => ∃ qs', r = .returned (.agg #[.int .i64 s.epoch, .int .i64 s.leader, .slice a0 (stps s j).length c0, .int .i64 s.high, .slice (some ⟨R, 0, none⟩) s.reps.length c1]) ∧ Gow w' B (stH s lg f (k + 1) j) a0 R qs' ∧ Below B w w' ∧ (∀ b, b < w.heap.size → b ≠ R → w'.heap[b]? = w.heap[b]?) ∧ ∀ b, b < w.heap.size → (∀ (i : Nat) (q : Rq), qs[i]? = some q → ¬ InI q.a q.p.log.length b) → ∀ (i : Nat) (q : Rq), qs'[i]? = some q → ¬ InI q.a q.p.log.length b := by
  obtain ⟨ql, hql, el⟩ : ∃ q, qs[f]? = some q ∧ q.p = rpN s lg := by
    refine h.at ?_
    show (stR s lg f k)[f]? = _
    rw [stR_get, List.getElem?_eq_getElem hfn]
    simp
  have ell : ql.p.log = lg := by rw [el]; rfl
  obtain ⟨q, hq⟩ : ∃ q, qs[k]? = some q := ⟨_, List.getElem?_eq_getElem (by rw [h.len]; show k < (stR s lg f k).length; rw [stR_len]; exact hk)⟩
  rw [← stH_val s lg f k j]
  refine (l11Fetch_any (stH s lg f k j) f B R k (sameN q.p.log ql.p.log) lg.length 30 ql q qs a0 c0 c1 w h hf hql hq (by show (stR s lg f k).length ≤ _; rw [stR_len]; omega) (by omega) (by omega) (by rw [ell]; omega) rfl (by rw [ell]; omega)).mono ?_
  rintro r w' ⟨a', k', hr, hG, hB, hO, hfr⟩
  rw [ell, List.take_length] at hr hG hfr
  rw [stH_put hk, stH_val] at hr
  rw [stH_put hk] at hG
  refine ⟨_, by rw [stH_val]; exact hr, hG, hB, hO, fun b hb hg i p hp hi => ?_⟩
  by_cases e : i = k
  · subst e
    rw [List.getElem?_set_self (by have := (List.getElem?_eq_some_iff.1 hp).1; rw [List.length_set] at this; exact this), Option.some.injEq] at hp
    subst hp
    have := hfr b hi
    omega
  · rw [List.getElem?_set_ne (fun g => e g.symm)] at hp
    exact hg i p hp hi

theorem leastH (s : Gr) (lg : List Rw) (f B R : Nat) (qs : List Rq) (a0 : Option Addr) (c0 c1 : Nat) (w : World) (hn1 : 1 ≤ s.reps.length) (hn : s.reps.length ≤ 4) (hrise : riseB s.steps s.reps.length = true) (h30 : lg.length ≤ 30) (h : Gow w B (stH s lg f s.reps.length s.reps.length) a0 R qs) :
    Calls Tryd.prog 56 #[.agg #[.int .i64 s.epoch, .int .i64 s.leader, .slice a0 (stps s s.reps.length).length c0, .int .i64 s.high, .slice (some ⟨R, 0, none⟩) s.reps.length c1]] w fun r w' => r = .returned (.int .i64 (lg.length : Int)) ∧ Below w.heap.size w w' := by
  have e : stH s lg f s.reps.length s.reps.length = ⟨s.epoch, s.leader, iotaZ s.reps.length, s.high, List.replicate s.reps.length (rpN s lg)⟩ := by unfold stH; rw [stps_done hn hrise, stR_done]
  obtain ⟨e1, e2⟩ := stG_raise (s := s) (lg := lg) hn1 h30 (iotaZ s.reps.length) rfl
  have hL : lstS (stH s lg f s.reps.length s.reps.length) = (lg.length : Int) := by
    rw [e]
    have hls := congrArg Gr.high e2
    have hno : nowTo ⟨s.epoch, s.leader, iotaZ s.reps.length, s.high, List.replicate s.reps.length (rpN s lg)⟩ (iotaZ s.reps.length).length := fun i hi => by
      have hi' : i < s.reps.length := by rw [iotaZ_len] at hi; exact hi
      show (rpA (List.replicate s.reps.length (rpN s lg)) (zA (iotaZ s.reps.length) i).toNat).epoch = s.epoch
      rw [show zA (iotaZ s.reps.length) i = (i : Int) from zA_some (by simp [iotaZ, hi']), Int.toNat_natCast, rpA_some (z := rpN s lg) (by simp [hi'])]
      rfl
    rw [lstS_done hno]
    exact hls
  rw [← stH_val s lg f s.reps.length s.reps.length, ← hL]
  refine l11Least_any (stH s lg f s.reps.length s.reps.length) a0 (some ⟨R, 0, none⟩) c0 c1 w h.reads ⟨?_, ?_⟩ ?_ ?_
  · show (stps s _).length ≤ maxLen
    have := stps_len s s.reps.length
    unfold maxLen; omega
  · show (stR s lg f _).length ≤ maxLen
    rw [stR_len]; unfold maxLen; omega
  · show (stR s lg f _).length ≤ _
    rw [stR_len]; omega
  · rw [e]
    intro z hz
    simp [iotaZ] at hz ⊢
    omega

end Go.Proofs.YtkhbgdnhkaeamaaDoor
