/-
  Groups of replicas, the specification's side: LagIn. Made by mkgrs.py.
-/
import Derived.Test.YtkhbgdnhkaeamaaGrS2
namespace Go.Proofs.Ytkhbgdnhkaeamaa
open Go.RowKit

theorem lg_bad {g : Gr} {k : Int} (h : lgB g k = false) : lgN g k = 0 ∧ lgB g k = false := by simp [lgN, h]

set_option maxRecDepth 100000 in
set_option maxHeartbeats 8000000 in
theorem specLagIn_any (s : Gr) (z : Int) (a0 a1 : Option Addr) (c0 c1 : Nat) (w : World) (hs : GrR w s a0 a1) (hl : GrL s) :
    Calls Try.prog 17 #[grV s a0 c0 a1 c1, .int .i64 z] w fun e w' => e = .returned (.tuple #[.int .i64 (lgN s z), .bool (lgB s z)]) ∧ Below w.heap.size w w' := by
  have mm := hl.reps
  unfold maxLen at mm
  obtain ⟨u0, hu0⟩ : ∃ u0, (w.alloc (.cells #[.int .i64 s.epoch, .int .i64 s.leader, .slice a0 s.steps.length c0, .int .i64 s.high, .slice a1 s.reps.length c1] 30)) = u0 := ⟨_, rfl⟩
  have kk : u0.cell? ⟨w.heap.size, 0, none⟩ = some (.int .i64 s.epoch) ∧ u0.cell? ⟨w.heap.size, 1, none⟩ = some (.int .i64 s.leader) ∧ u0.cell? ⟨w.heap.size, 2, none⟩ = some (.slice a0 s.steps.length c0) ∧ u0.cell? ⟨w.heap.size, 3, none⟩ = some (.int .i64 s.high) ∧ u0.cell? ⟨w.heap.size, 4, none⟩ = some (.slice a1 s.reps.length c1) := by rw [← hu0]; simp [go_sem]
  have bB : Below w.heap.size w u0 := by rw [← hu0]; exact alGr _ _
  obtain ⟨q0, q1, q2, q3, q4⟩ := kk
  cases hg : goodGr s with
  | false =>
    have HE : Hid (lgN s z = 0 ∧ lgB s z = false) := lg_bad (by simp [lgB, hg])
    go_enter Try.func17, Try.ntmps17
    go_wp2_with fail
    refine (specGoodGr_c s _ _ _ _ _ _ (hs.below bB) hl hg).mono ?_
    rintro r w1 ⟨rfl, hB1⟩
    have BB := stGr bB hB1
    clear hB1
    go_wp2
    refine bodyPost_ret (v := .tuple #[.int .i64 0, .bool false]) (by simp [results, Try.results17, go_sem]) rfl ⟨by rw [HE.out.1, HE.out.2], BB⟩
  | true =>
    by_cases hz0 : z < 0
    · have HE : Hid (lgN s z = 0 ∧ lgB s z = false) := lg_bad (by rw [lgB, thB_f.2 (by omega), Bool.and_false])
      go_enter Try.func17, Try.ntmps17
      go_wp2_with fail
      refine (specGoodGr_c s _ _ _ _ _ _ (hs.below bB) hl hg).mono ?_
      rintro r w1 ⟨rfl, hB1⟩
      have BB := stGr bB hB1
      have p1 := celB hB1 q1
      have p4 := celB hB1 q4
      clear hB1 q0 q1 q2 q3 q4
      go_wp2
      refine bodyPost_ret (v := .tuple #[.int .i64 0, .bool false]) (by simp [results, Try.results17, go_sem]) rfl ⟨by rw [HE.out.1, HE.out.2], BB⟩
    by_cases hz1 : (s.reps.length : Int) ≤ z
    · have HE : Hid (lgN s z = 0 ∧ lgB s z = false) := lg_bad (by rw [lgB, thB_f.2 (by omega), Bool.and_false])
      go_enter Try.func17, Try.ntmps17
      go_wp2_with fail
      refine (specGoodGr_c s _ _ _ _ _ _ (hs.below bB) hl hg).mono ?_
      rintro r w1 ⟨rfl, hB1⟩
      have BB := stGr bB hB1
      have p1 := celB hB1 q1
      have p4 := celB hB1 q4
      clear hB1 q0 q1 q2 q3 q4
      go_wp2
      refine bodyPost_ret (v := .tuple #[.int .i64 0, .bool false]) (by simp [results, Try.results17, go_sem]) rfl ⟨by rw [HE.out.1, HE.out.2], BB⟩
    obtain ⟨k, rfl⟩ : ∃ k : Nat, z = k := ⟨z.toNat, by omega⟩
    have hkn : k < s.reps.length := by omega
    have hki : (k : Int) < (s.reps.length : Int) := by omega
    have hhd : headGr s = true := by simp only [goodGr, Bool.and_eq_true] at hg; exact hg.1
    obtain ⟨g1, g2⟩ := head_lead hhd
    obtain ⟨f, hf⟩ : ∃ f : Nat, s.leader = f := ⟨s.leader.toNat, by omega⟩
    have hfn : f < s.reps.length := by omega
    have hfi : (f : Int) < (s.reps.length : Int) := by omega
    obtain ⟨kl, ol, ea, r9, k9, d0, -, -, z9, m9⟩ := hs.reps f _ (rpA_get hfn)
    obtain ⟨kb, ob, eb, r0, k0, e0, -, -, z0, m0⟩ := hs.reps k _ (rpA_get hkn)
    subst ea
    simp only [Option.some.injEq, Addr.mk.injEq, and_true] at eb
    obtain ⟨rfl, rfl⟩ := eb
    obtain ⟨lg, hlg⟩ : ∃ lg, (rpA s.reps f).log = lg := ⟨_, rfl⟩
    obtain ⟨lk, hlk⟩ : ∃ lk, (rpA s.reps k).log = lk := ⟨_, rfl⟩
    rw [hlg] at d0 z9 m9
    rw [hlk] at e0 z0 m0
    obtain ⟨n, hn⟩ : ∃ n, sameN lk lg = n := ⟨_, rfl⟩
    have hnl := sameN_le lk lg
    rw [hn] at hnl
    have HE : Hid (lgN s k = (lg.length : Int) - (n : Int) ∧ lgB s k = true) := by
      have hb : lgB s k = true := by simp only [lgB, hg, thB_t.2 ⟨Int.natCast_nonneg k, hki⟩, Bool.and_self]
      refine ⟨?_, hb⟩
      rw [lgN, if_pos hb]
      show ((rpA s.reps s.leader.toNat).log.length : Int) - (sameN (rpA s.reps (k : Int).toNat).log (rpA s.reps s.leader.toNat).log : Int) = _
      rw [hf, Int.toNat_natCast, Int.toNat_natCast, hlg, hlk, hn]
    have HF : Hid (s.leader = f) := hf
    have mg := m9
    unfold maxLen at mg
    replace d0 := celB bB d0
    replace e0 := celB bB e0
    replace z9 := z9.below bB
    replace z0 := z0.below bB
    clear hf hlg hlk hhd g1 g2
    go_enter Try.func17, Try.ntmps17
    go_wp2_with fail
    refine (specGoodGr_c s _ _ _ _ _ _ (hs.below bB) hl hg).mono ?_
    rintro r w1 ⟨rfl, hB1⟩
    have BB := stGr bB hB1
    have p1 := celB hB1 q1
    rw [HF.out] at p1
    have p4 := celB hB1 q4
    replace d0 := celB hB1 d0
    replace e0 := celB hB1 e0
    replace z9 := z9.below hB1
    replace z0 := z0.below hB1
    clear hB1 q0 q1 q2 q3 q4 hu0
    go_wp2_with fail
    refine (l11Same_c _ _ _ _ _ _ n _ z0 z9 m0 hn).mono ?_
    rintro r w2 ⟨rfl, m, hw⟩
    rw [hw]
    clear hw w2 hn
    go_wp2
    refine bodyPost_ret (v := .tuple #[.int .i64 ((lg.length : Int) - (n : Int)), .bool true]) (by simp [results, Try.results17, go_sem]) rfl ⟨by rw [HE.out.1, HE.out.2], below_drewN BB m⟩

end Go.Proofs.Ytkhbgdnhkaeamaa
