/-
  Groups that the program owns: the steps of impl.SettleGroup, over the group that is settled replica by replica.
-/
import Derived.Test.YtkhbgdnhkaeamaaDoorOgMJ
import Derived.Test.YtkhbgdnhkaeamaaDoorOgI3J
namespace Go.Proofs.YtkhbgdnhkaeamaaDoor
open Go.RowKit

/-- Nothing of the group lies in block b. -/
def Gfr (s : Gr) (a0 : Option Addr) (R : Nat) (qs : List Rq) (b : Nat) : Prop := ∀ c, (InI a0 s.steps.length c ∨ c = R ∨ ∃ (i : Nat) (q : Rq), qs[i]? = some q ∧ InI q.a q.p.log.length c) → c ≠ b

theorem stG_val (s : Gr) (lg : List Rw) (f k : Nat) (a0 a1 : Option Addr) (c0 c1 : Nat) : grV (stG s lg f k) a0 c0 a1 c1 = grV s a0 c0 a1 c1 := by simp [stG, stR_len]

theorem stG_at {w : World} {B : Nat} {s : Gr} {lg : List Rw} {f k : Nat} {a0 : Option Addr} {R : Nat} {qs : List Rq} (h : Gow w B (stG s lg f k) a0 R qs) (hf : f < s.reps.length) : ∃ q, qs[f]? = some q ∧ q.p = rpN s lg := by
  refine h.at ?_
  show (stR s lg f k)[f]? = _
  rw [stR_get, List.getElem?_eq_getElem hf]
  simp

theorem stG_log {s : Gr} {lg : List Rw} {f k : Nat} (hl : ∀ (i : Nat) (p : Rp), s.reps[i]? = some p → p.log.length ≤ 30) (h30 : lg.length ≤ 30) : ∀ (i : Nat) (p : Rp), (stG s lg f k).reps[i]? = some p → p.log.length ≤ 1000 := fun i p hp => by
  have hp' : (stR s lg f k)[i]? = some p := hp
  rw [stR_get, Option.map_eq_some_iff] at hp'
  obtain ⟨p0, h0, e⟩ := hp'
  have := hl i p0 h0
  by_cases hc : i < k ∨ i = f
  · rw [if_pos hc] at e
    subst e
    show lg.length ≤ 1000
    omega
  · rw [if_neg hc] at e
    subst e
    omega

theorem fetchS (s : Gr) (lg : List Rw) (f k B R : Nat) (qs : List Rq) (a0 : Option Addr) (c0 c1 : Nat) (w : World) (h : Gow w B (stG s lg f k) a0 R qs) (hf : s.leader = f) (hfn : f < s.reps.length) (hk : k < s.reps.length) (hkf : k ≠ f) (hn : s.reps.length ≤ 4) (h30 : lg.length ≤ 30) :
    Calls Tryd.prog 49 #[grV s a0 c0 (some ⟨R, 0, none⟩) c1, .int .i64 (k : Int), .int .i64 30] w fun r w' => ∃ qs', r = .returned (.tuple #[grV s a0 c0 (some ⟨R, 0, none⟩) c1, .bool true]) ∧ Gow w' B (stG s lg f (k + 1)) a0 R qs' ∧ Below B w w' ∧ (∀ b, b < w.heap.size → b ≠ R → w'.heap[b]? = w.heap[b]?) ∧ ∀ b, b < w.heap.size → Gfr s a0 R qs b → Gfr s a0 R qs' b := by
  obtain ⟨ql, hql, el⟩ := stG_at h hfn
  have ell : ql.p.log = lg := by rw [el]; rfl
  obtain ⟨q, hq⟩ : ∃ q, qs[k]? = some q := ⟨_, List.getElem?_eq_getElem (by rw [h.len]; show k < (stR s lg f k).length; rw [stR_len]; exact hk)⟩
  rw [← stG_val s lg f k]
  refine (withFetch_t (stG s lg f k) f B R k (sameN ql.p.log q.p.log) lg.length 30 ql q qs a0 c0 c1 w h hf hql hq (by show (stR s lg f k).length ≤ _; rw [stR_len]; omega) hkf (by omega) (by omega) (by rw [ell]; omega) rfl (by rw [ell]; omega)).mono ?_
  rintro r w' ⟨a', k', hr, hG, hB, hO, hfr⟩
  rw [ell, List.take_length] at hr hG hfr
  rw [stG_put hk, stG_val] at hr
  rw [stG_put hk] at hG
  refine ⟨_, by rw [stG_val]; exact hr, hG, hB, hO, fun b hb hg c hc => ?_⟩
  rcases hc with hc | hc | ⟨i, p, hp, hi⟩
  · exact hg c (.inl hc)
  · exact hg c (.inr (.inl hc))
  · by_cases e : i = k
    · subst e
      rw [List.getElem?_set_self (by have := (List.getElem?_eq_some_iff.1 hp).1; rw [List.length_set] at this; exact this), Option.some.injEq] at hp
      subst hp
      have := hfr c hi
      omega
    · rw [List.getElem?_set_ne (fun g => e g.symm)] at hp
      exact hg c (.inr (.inr ⟨i, p, hp, hi⟩))

theorem raiseS (s : Gr) (lg : List Rw) (f B R : Nat) (qs : List Rq) (a0 : Option Addr) (c0 c1 : Nat) (w : World) (hf : s.leader = f) (hfn : f < s.reps.length) (hn : s.reps.length ≤ 4) (h30 : lg.length ≤ 30)
    (h : Gow w B ⟨s.epoch, s.leader, iotaZ s.reps.length, s.high, List.replicate s.reps.length (rpN s lg)⟩ a0 R qs) :
    Calls Tryd.prog 50 #[.agg #[.int .i64 s.epoch, .int .i64 s.leader, .slice a0 s.reps.length c0, .int .i64 s.high, .slice (some ⟨R, 0, none⟩) s.reps.length c1]] w fun r w' =>
      ((s.high < (lg.length : Int) ∧ r = .returned (.tuple #[.agg #[.int .i64 s.epoch, .int .i64 s.leader, .slice a0 s.reps.length c0, .int .i64 (lg.length : Int), .slice (some ⟨R, 0, none⟩) s.reps.length c1], .bool true])) ∨ (¬ s.high < (lg.length : Int) ∧ r = .returned (.tuple #[.agg #[.int .i64 0, .int .i64 0, .slice none 0 0, .int .i64 0, .slice none 0 0], .bool false]))) ∧ Below w.heap.size w w' := by
  obtain ⟨e1, e2⟩ := stG_raise (s := s) (lg := lg) (by omega) h30 (iotaZ s.reps.length) rfl
  have hv : ∀ (hi : Int), grV ⟨s.epoch, s.leader, iotaZ s.reps.length, hi, List.replicate s.reps.length (rpN s lg)⟩ a0 c0 (some ⟨R, 0, none⟩) c1 = .agg #[.int .i64 s.epoch, .int .i64 s.leader, .slice a0 s.reps.length c0, .int .i64 hi, .slice (some ⟨R, 0, none⟩) s.reps.length c1] := fun hi => by simp [iotaZ_len]
  rw [← hv s.high]
  refine (withHighRaised_any ⟨s.epoch, s.leader, iotaZ s.reps.length, s.high, List.replicate s.reps.length (rpN s lg)⟩ f lg a0 (some ⟨R, 0, none⟩) c0 c1 w h.reads ⟨by simp [iotaZ_len]; unfold maxLen; omega, by simp; unfold maxLen; omega⟩ hf (by simpa using hfn) (by simp; omega) (by rw [rpA_some (z := rpN s lg) (by simp [hfn])]; rfl) (fun z hz => by simp [iotaZ] at hz ⊢; omega)).mono ?_
  rintro r w' ⟨h1, hB⟩
  refine ⟨?_, hB⟩
  rw [e1, e2, decide_eq_true_eq, decide_eq_false_iff_not] at h1
  rcases h1 with ⟨h1, h2⟩ | ⟨h1, h2⟩
  · exact .inl ⟨h1, by rw [h2, hv]⟩
  · exact .inr ⟨h1, h2⟩

end Go.Proofs.YtkhbgdnhkaeamaaDoor
