/-
  SettleGroup in plain mathematics: each replica has the leader's log, all are in step, all of it is committed.
-/
import Derived.Test.YtkhbgdnhkaeamaaDoorOg2
import Derived.Test.YtkhbgdnhkaeamaaDoorOgI4
import Derived.Test.YtkhbgdnhkaeamaaDoorGrC
import Derived.Test.YtkhbgdnhkaeamaaDoorGrN
namespace Go.Proofs.YtkhbgdnhkaeamaaDoor
open Go.RowKit

def rpN (s : Gr) (lg : List Rw) : Rp := ⟨lg, s.epoch, (lg.length : Int)⟩
/-- The first k and the leader have fetched all. -/
def stR (s : Gr) (lg : List Rw) (f k : Nat) : List Rp := s.reps.mapIdx fun i p => if i < k ∨ i = f then rpN s lg else p
theorem stR_len (s : Gr) (lg : List Rw) (f k : Nat) : (stR s lg f k).length = s.reps.length := by simp [stR]
theorem stR_get (s : Gr) (lg : List Rw) (f k i : Nat) : (stR s lg f k)[i]? = (s.reps[i]?).map fun p => if i < k ∨ i = f then rpN s lg else p := by simp [stR]
theorem stR_zero (s : Gr) (lg : List Rw) (f : Nat) : s.reps.set f (rpN s lg) = stR s lg f 0 := by
  apply List.ext_getElem?
  intro i
  rw [stR_get, List.getElem?_set]
  by_cases h : f = i
  · subst h
    by_cases h2 : f < s.reps.length
    · simp [h2]
    · simp [h2]
  · rw [if_neg h]
    have h' : ¬ i = f := fun e => h e.symm
    cases s.reps[i]? <;> simp [h']
theorem stR_step {s : Gr} {lg : List Rw} {f k : Nat} (hk : k < s.reps.length) : (stR s lg f k).set k (rpN s lg) = stR s lg f (k + 1) := by
  apply List.ext_getElem?
  intro i
  rw [stR_get, List.getElem?_set, stR_len, stR_get]
  by_cases h : k = i
  · subst h
    simp [hk]
  · rw [if_neg h]
    have : (i < k ∨ i = f) ↔ (i < k + 1 ∨ i = f) := by omega
    cases s.reps[i]? with
    | none => rfl
    | some p => simp only [Option.map_some, this]
theorem stR_skip (s : Gr) (lg : List Rw) (f : Nat) : stR s lg f f = stR s lg f (f + 1) := by
  apply List.ext_getElem?
  intro i
  rw [stR_get, stR_get]
  have : (i < f ∨ i = f) ↔ (i < f + 1 ∨ i = f) := by omega
  cases s.reps[i]? with
  | none => rfl
  | some p => simp only [Option.map_some, this]
theorem stR_done (s : Gr) (lg : List Rw) (f : Nat) : stR s lg f s.reps.length = List.replicate s.reps.length (rpN s lg) := by
  apply List.ext_getElem?
  intro i
  rw [stR_get]
  by_cases h : i < s.reps.length
  · simp [h]
  · simp [h]

def stG (s : Gr) (lg : List Rw) (f k : Nat) : Gr := { s with reps := stR s lg f k }
theorem stG_put {s : Gr} {lg : List Rw} {f k : Nat} (hk : k < s.reps.length) : upN (stG s lg f k) k lg = stG s lg f (k + 1) := by
  unfold upN putR stG
  have := stR_step (lg := lg) (f := f) hk
  simp only [rpN] at this ⊢
  rw [this]
theorem stG_zero (s : Gr) (lg : List Rw) (f : Nat) : upN s f lg = stG s lg f 0 := by
  unfold upN putR stG
  rw [← stR_zero]; rfl
theorem stG_skip (s : Gr) (lg : List Rw) (f : Nat) : stG s lg f f = stG s lg f (f + 1) := by unfold stG; rw [stR_skip]

def stlG (s : Gr) : Gr := if goodGr s = true then ⟨s.epoch, s.leader, iotaZ s.reps.length, ((leadL s).length : Int), List.replicate s.reps.length (rpN s (leadL s))⟩ else ⟨0, 0, [], 0, []⟩
def stlN (s : Gr) : Int := if goodGr s = true then ((leadL s).length : Int) - s.high else 0
theorem stlG_f {s : Gr} (h : goodGr s = false) : stlG s = ⟨0, 0, [], 0, []⟩ ∧ stlN s = 0 := by simp [stlG, stlN, h]
theorem stlG_t {s : Gr} (h : goodGr s = true) : stlG s = ⟨s.epoch, s.leader, iotaZ s.reps.length, ((leadL s).length : Int), List.replicate s.reps.length (rpN s (leadL s))⟩ ∧ stlN s = ((leadL s).length : Int) - s.high := by simp [stlG, stlN, h]

/-- What a good group is, where it is walked. -/
theorem goodGr_all {s : Gr} (h : goodGr s = true) : 2 ≤ s.reps.length ∧ s.reps.length ≤ 4 ∧ (∀ (i : Nat) (p : Rp), s.reps[i]? = some p → p.log.length ≤ 30) ∧ riseB s.steps s.reps.length = true ∧ s.steps.length ≤ 4 ∧ 0 ≤ s.epoch ∧ s.epoch ≤ 100 := by
  rw [goodGr_is] at h
  simp only [goodI, headI, Bool.and_eq_true, decide_eq_true_eq] at h
  obtain ⟨⟨h1, h2, -⟩, h3, h4, -⟩ := h
  have hn := inB_t.1 h1
  have he := inB_t.1 h2
  refine ⟨by omega, by omega, fun i p hp => ?_, h4, ?_, he.1, he.2⟩
  · have := h3 i (List.getElem?_eq_some_iff.1 hp).1
    rw [rpA_some hp, okRI_iff] at this
    have h5 := this.2.1
    simp only [rlogB, Bool.and_eq_true, decide_eq_true_eq] at h5
    exact h5.2
  · have := (mem7_msk (by omega) h4).1
    have hm := congrArg List.length this
    rw [List.length_map] at hm
    rw [← hm]
    have hlt : ∀ i ∈ mem7 (msk s.steps), i < 4 := fun i hi => by
      have := rise_mem h4 ((mem_msk (by omega) h4).1 hi)
      omega
    have e7 : List.range 7 = List.range 4 ++ [4, 5, 6] := rfl
    have h0 : ([4, 5, 6].filter fun i => (msk s.steps).testBit i) = [] := by
      rw [List.filter_eq_nil_iff]
      intro i hi hb
      have : i ∈ mem7 (msk s.steps) := mem7_iff.2 ⟨by simp at hi; omega, hb⟩
      have := hlt i this
      simp at hi
      omega
    unfold mem7
    rw [e7, List.filter_append, List.length_append, h0]
    exact Nat.le_trans (List.length_filter_le _ _) (by simp)

/-- Behind the fetches what is known is the leader's log. -/
theorem stG_raise {s : Gr} {lg : List Rw} (hn : 1 ≤ s.reps.length) (h30 : lg.length ≤ 30) (zs : List Int) (hz : zs = iotaZ s.reps.length) :
    let t : Gr := ⟨s.epoch, s.leader, zs, s.high, List.replicate s.reps.length (rpN s lg)⟩
    (hrOk t = decide (s.high < (lg.length : Int))) ∧ hrS t = ⟨s.epoch, s.leader, zs, (lg.length : Int), List.replicate s.reps.length (rpN s lg)⟩ := by
  intro t
  have hl : t.steps.length = s.reps.length := by show zs.length = _; rw [hz, iotaZ_len]
  have at_ : ∀ k, k < s.reps.length → rpA t.reps (zA t.steps k).toNat = rpN s lg := fun k hk => by
    have e : zA t.steps k = (k : Int) := zA_some (by show zs[k]? = _; rw [hz]; simp [iotaZ, hk])
    rw [e, Int.toNat_natCast]
    exact rpA_some (by show (List.replicate s.reps.length (rpN s lg))[k]? = _; simp [hk])
  have ls : ∀ k, k ≤ s.reps.length → lsTo t k = if k = 0 then 30 else (lg.length : Int) := by
    intro k
    induction k with
    | zero => intro _; rfl
    | succ k ih =>
      intro hk
      rw [lsTo, at_ k (by omega), ih (by omega), if_neg (by omega : ¬ k + 1 = 0)]
      show (if (lg.length : Int) < _ then (lg.length : Int) else _) = _
      by_cases h0 : k = 0
      · rw [if_pos h0]
        split <;> omega
      · rw [if_neg h0, if_neg (by omega)]
  have hL : lsTo t t.steps.length = (lg.length : Int) := by rw [hl, ls _ (Nat.le_refl _), if_neg (by omega)]
  refine ⟨?_, ?_⟩
  · have hno : nowTo t t.steps.length := fun i hi => by rw [at_ i (by omega)]; rfl
    unfold hrOk
    rw [hL, decide_eq_true hno, Bool.true_and]
  · unfold hrS
    rw [hL]

theorem Gow.newSteps {w : World} {B : Nat} {s : Gr} {a0 : Option Addr} {R : Nat} {qs : List Rq} (h : Gow w B s a0 R qs) (t : Gr) (hr : t.reps = s.reps) (a : Option Addr) (hi : Ints w a t.steps) (hR : RowI w B a t.steps.length) (hA : ∀ b, InI a t.steps.length b → b ≠ R) : Gow w B t a R qs :=
  ⟨by rw [hr]; exact h.eqs, hi, hR, hA, h.og⟩

end Go.Proofs.YtkhbgdnhkaeamaaDoor
