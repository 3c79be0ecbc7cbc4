/-
  Groups, the program's side: impl.SettleGroup. Made by mkogi6.py.
-/
import Derived.Test.YtkhbgdnhkaeamaaDoorOgI5
import Derived.Test.YtkhbgdnhkaeamaaDoorGrI3
import Derived.Test.YtkhbgdnhkaeamaaDoorGrI6J
namespace Go.Proofs.YtkhbgdnhkaeamaaDoor
open Go.RowKit

set_option maxRecDepth 100000 in
set_option maxHeartbeats 16000000 in
theorem implSettle_any (s : Gr) (a0 a1 : Option Addr) (c0 c1 : Nat) (w : World) (hs : GrR w s a0 a1) (hb : GrB s) (HT : TabQ w) :
    Calls Tryd.prog 27 #[grV s a0 c0 a1 c1] w fun r w' => ∃ b0 b1 d0 d1 r10 k10, r = .returned (.tuple #[grV (stlG s) b0 d0 b1 d1, .int .i64 (stlN s), .bool (goodGr s)]) ∧ GrO w' w.heap.size (stlG s) b0 b1 r10 k10 ∧ Below w.heap.size w w' := by
  obtain ⟨x0, hx0⟩ : ∃ u, ((w.alloc (.cells #[.int .i64 s.epoch, .int .i64 s.leader, .slice a0 s.steps.length c0, .int .i64 s.high, .slice a1 s.reps.length c1] 25)).alloc (.cells #[.int .i64 0, .int .i64 0, .slice none 0 0, .int .i64 0, .slice none 0 0] 25)) = u := ⟨_, rfl⟩
  have b0 : Below w.heap.size w x0 := by rw [← hx0]; exact ((Below.refl _ _).alloc (Nat.le_refl _) _).alloc (by simp) _
  have hz0 : x0.heap.size = w.heap.size + 2 := by rw [← hx0]; simp
  have g0 : x0.cell? ⟨w.heap.size, 0, none⟩ = some (.int .i64 s.epoch) := by rw [← hx0]; simp [go_sem]
  have g1 : x0.cell? ⟨w.heap.size, 1, none⟩ = some (.int .i64 s.leader) := by rw [← hx0]; simp [go_sem]
  have g2 : x0.cell? ⟨w.heap.size, 2, none⟩ = some (.slice a0 s.steps.length c0) := by rw [← hx0]; simp [go_sem]
  have g3 : x0.cell? ⟨w.heap.size, 3, none⟩ = some (.int .i64 s.high) := by rw [← hx0]; simp [go_sem]
  have g4 : x0.cell? ⟨w.heap.size, 4, none⟩ = some (.slice a1 s.reps.length c1) := by rw [← hx0]; simp [go_sem]
  have z0 : x0.cell? ⟨w.heap.size + 1, 0, none⟩ = some (.int .i64 0) := by rw [← hx0]; simp [go_sem]
  have z1 : x0.cell? ⟨w.heap.size + 1, 1, none⟩ = some (.int .i64 0) := by rw [← hx0]; simp [go_sem]
  have z2 : x0.cell? ⟨w.heap.size + 1, 2, none⟩ = some (.slice none 0 0) := by rw [← hx0]; simp [go_sem]
  have z3 : x0.cell? ⟨w.heap.size + 1, 3, none⟩ = some (.int .i64 0) := by rw [← hx0]; simp [go_sem]
  have z4 : x0.cell? ⟨w.heap.size + 1, 4, none⟩ = some (.slice none 0 0) := by rw [← hx0]; simp [go_sem]
  have gf : ∀ o, x0.frozen? ⟨w.heap.size, o, none⟩ = false := fun o => by rw [← hx0]; simp [go_sem]
  have zf : ∀ o, x0.frozen? ⟨w.heap.size + 1, o, none⟩ = false := fun o => by rw [← hx0]; simp [go_sem]
  cases hg : goodGr s with
  | false =>
    have HE : Hid (stlG s = ⟨0, 0, [], 0, []⟩ ∧ stlN s = 0) := stlG_f hg
    go_enter Tryd.func27, Tryd.ntmps27
    go_wp2_with fail
    try rw [hx0]
    refine (implGoodGr_c s _ _ _ _ _ (hs.below b0) hb.len _ hg).mono ?_
    rintro r w1 ⟨rfl, hB1⟩
    clear hx0
    replace g0 := celB hB1 g0
    replace g1 := celB hB1 g1
    replace g2 := celB hB1 g2
    replace g3 := celB hB1 g3
    replace g4 := celB hB1 g4
    replace z0 := celB hB1 z0
    replace z1 := celB hB1 z1
    replace z2 := celB hB1 z2
    replace z3 := celB hB1 z3
    replace z4 := celB hB1 z4
    replace gf := fun o => frzB (o := o) hB1 (by omega) (gf o)
    replace zf := fun o => frzB (o := o) hB1 (by omega) (zf o)
    have BW := stGr b0 hB1
    clear hB1
    go_wp2
    refine bodyPost_ret (v := .tuple #[.agg #[.int .i64 0, .int .i64 0, .slice none 0 0, .int .i64 0, .slice none 0 0], .int .i64 0, .bool false]) (by simp [results, Tryd.results27, go_sem, z0, z1, z2, z3, z4]) rfl ⟨none, none, 0, 0, fun _ => none, fun _ => 0, by rw [HE.out.1, HE.out.2]; rfl, ?_, ?_⟩
    · rw [HE.out.1]; exact newGr_zero _ _
    · exact ((((BW.setCell (by simp) _).setCell (by simp) _).setCell (by simp) _).setCell (by simp) _).setCell (by simp) _
  | true =>
    obtain ⟨hn2, hn4, hlog, hrise, hst4, -, -⟩ := goodGr_all hg
    obtain ⟨hh0, hh1, hh30, hl0, hl1, -⟩ := goodGr_high hg
    obtain ⟨f, hf⟩ : ∃ f : Nat, s.leader = f := ⟨s.leader.toNat, by omega⟩
    have hfn : f < s.reps.length := by omega
    obtain ⟨lg, hlg⟩ : ∃ lg, leadL s = lg := ⟨_, rfl⟩
    have hlgf : (rpA s.reps f).log = lg := by rw [← hlg, leadL, hf, Int.toNat_natCast]
    have HE : Hid (stlG s = ⟨s.epoch, s.leader, iotaZ s.reps.length, (lg.length : Int), List.replicate s.reps.length (rpN s lg)⟩ ∧ stlN s = (lg.length : Int) - s.high) := by have := stlG_t hg; rw [hlg] at this; exact this
    rw [hlg] at hh1 hh30
    have HF : Hid (s.leader = f) := hf
    have HLG : Hid ((rpA s.reps f).log = lg) := hlgf
    have HLOG : Hid (∀ (i : Nat) (p : Rp), s.reps[i]? = some p → p.log.length ≤ 30) := hlog
    have h0n : 0 < s.reps.length := by omega
    have hhi : s.high ≤ (lg.length : Int) := hh1
    clear hf hlg hlgf hlog hl0 hl1 hrise hh1
    go_enter Tryd.func27, Tryd.ntmps27
    go_wp2_with fail
    try rw [hx0]
    refine (implGoodGr_c s _ _ _ _ _ (hs.below b0) hb.len _ hg).mono ?_
    rintro r w1 ⟨rfl, hB1⟩
    clear hx0 hg
    replace g0 := celB hB1 g0
    replace g1 := celB hB1 g1
    replace g2 := celB hB1 g2
    replace g3 := celB hB1 g3
    replace g4 := celB hB1 g4
    replace z0 := celB hB1 z0
    replace z1 := celB hB1 z1
    replace z2 := celB hB1 z2
    replace z3 := celB hB1 z3
    replace z4 := celB hB1 z4
    replace gf := fun o => frzB (o := o) hB1 (by omega) (gf o)
    replace zf := fun o => frzB (o := o) hB1 (by omega) (zf o)
    have b1 := stGr b0 hB1
    have hz1 := hB1.size
    clear hB1
    go_wp2_with fail
    refine (copyGroup_any s _ _ _ _ _ (hs.below b1) (by omega) (by omega) h0n (fun i p h => by have := HLOG.out i p h; omega)).mono ?_
    rintro r w2 ⟨b0', d0', R, c1', qs0, rfl, hG0, hB2⟩
    replace g0 := celB hB2 g0
    replace g1 := celB hB2 g1
    replace g2 := celB hB2 g2
    replace g3 := celB hB2 g3
    replace g4 := celB hB2 g4
    replace z0 := celB hB2 z0
    replace z1 := celB hB2 z1
    replace z2 := celB hB2 z2
    replace z3 := celB hB2 z3
    replace z4 := celB hB2 z4
    replace gf := fun o => frzB (o := o) hB2 (by omega) (gf o)
    replace zf := fun o => frzB (o := o) hB2 (by omega) (zf o)
    have hz2 := hB2.size
    have b2 := stGr b1 hB2
    obtain ⟨ql, hql, hqp⟩ := hG0.at (rpA_get hfn)
    have hqlg : ql.p.log = lg := by rw [hqp]; exact HLG.out
    have hRB := hG0.og.hB
    have hRz := hG0.og.size
    go_wp2_with fail
    refine (withLeaderUpToNow_any s f w1.heap.size R ql qs0 _ _ _ _ hG0 HF.out hql (by omega) (fun i p h => by have := HLOG.out i p h; omega)).mono ?_
    rintro r w3 ⟨qs1, hr, hG1, hB3, hO3⟩
    rw [hqlg, stG_zero, stG_val] at hr
    rw [hqlg, stG_zero] at hG1
    subst hr
    have hz3 := hB3.size
    clear hql hqp hqlg ql
    replace g0 := (hB3.cell (p := ⟨w.heap.size, 0, none⟩) (by show w.heap.size < _; omega)).trans g0
    replace g1 := (hB3.cell (p := ⟨w.heap.size, 1, none⟩) (by show w.heap.size < _; omega)).trans g1
    replace g2 := (hB3.cell (p := ⟨w.heap.size, 2, none⟩) (by show w.heap.size < _; omega)).trans g2
    replace g3 := (hB3.cell (p := ⟨w.heap.size, 3, none⟩) (by show w.heap.size < _; omega)).trans g3
    replace g4 := (hB3.cell (p := ⟨w.heap.size, 4, none⟩) (by show w.heap.size < _; omega)).trans g4
    replace z0 := (hB3.cell (p := ⟨w.heap.size + 1, 0, none⟩) (by show w.heap.size + 1 < _; omega)).trans z0
    replace z1 := (hB3.cell (p := ⟨w.heap.size + 1, 1, none⟩) (by show w.heap.size + 1 < _; omega)).trans z1
    replace z2 := (hB3.cell (p := ⟨w.heap.size + 1, 2, none⟩) (by show w.heap.size + 1 < _; omega)).trans z2
    replace z3 := (hB3.cell (p := ⟨w.heap.size + 1, 3, none⟩) (by show w.heap.size + 1 < _; omega)).trans z3
    replace z4 := (hB3.cell (p := ⟨w.heap.size + 1, 4, none⟩) (by show w.heap.size + 1 < _; omega)).trans z4
    replace gf : ∀ o, w3.frozen? ⟨w.heap.size, o, none⟩ = false := fun o => (hB3.frozen (p := ⟨w.heap.size, o, none⟩) (by show w.heap.size < _; omega)).trans (gf o)
    replace zf : ∀ o, w3.frozen? ⟨w.heap.size + 1, o, none⟩ = false := fun o => (hB3.frozen (p := ⟨w.heap.size + 1, o, none⟩) (by show w.heap.size + 1 < _; omega)).trans (zf o)
    have b3 : Below w.heap.size w w3 := b2.trans (hB3.mono (by omega))
    obtain ⟨x5, hx5⟩ : ∃ u, (w3.alloc (.cells #[.int .i64 s.epoch, .int .i64 s.leader, .slice b0' s.steps.length d0', .int .i64 s.high, .slice (some ⟨R, 0, none⟩) s.reps.length c1'] 25)) = u := ⟨_, rfl⟩
    have b5 : Below w3.heap.size w3 x5 := by rw [← hx5]; exact alGr _ _
    have hz5 : x5.heap.size = w3.heap.size + 1 := by rw [← hx5]; simp
    have hG5 := hG1.below b5
    have hFr : Gfr s b0' R qs1 w3.heap.size := hG1.ne (Nat.le_refl _)
    have k0 : x5.cell? ⟨w3.heap.size, 0, none⟩ = some (.int .i64 s.epoch) := by rw [← hx5]; simp [go_sem]
    have k1 : x5.cell? ⟨w3.heap.size, 1, none⟩ = some (.int .i64 s.leader) := by rw [← hx5]; simp [go_sem]
    have k2 : x5.cell? ⟨w3.heap.size, 2, none⟩ = some (.slice b0' s.steps.length d0') := by rw [← hx5]; simp [go_sem]
    have k3 : x5.cell? ⟨w3.heap.size, 3, none⟩ = some (.int .i64 s.high) := by rw [← hx5]; simp [go_sem]
    have k4 : x5.cell? ⟨w3.heap.size, 4, none⟩ = some (.slice (some ⟨R, 0, none⟩) s.reps.length c1') := by rw [← hx5]; simp [go_sem]
    have kf : ∀ o, x5.frozen? ⟨w3.heap.size, o, none⟩ = false := fun o => by rw [← hx5]; simp [go_sem]
    replace g0 := celB b5 g0
    replace g1 := celB b5 g1
    replace g2 := celB b5 g2
    replace g3 := celB b5 g3
    replace g4 := celB b5 g4
    replace z0 := celB b5 z0
    replace z1 := celB b5 z1
    replace z2 := celB b5 z2
    replace z3 := celB b5 z3
    replace z4 := celB b5 z4
    replace gf := fun o => frzB (o := o) b5 (by omega) (gf o)
    replace zf := fun o => frzB (o := o) b5 (by omega) (zf o)
    have b5w : Below w.heap.size w x5 := stGr b3 b5
    go_wp2_with fail
    try rw [hx5]
    clear hx5 hG0 hB2 hB3 hO3 hG1 b5
    go_loopw [21] (fun i wr => ∃ (k : Nat) (qs : List Rq), k ≤ s.reps.length ∧ i = .int .i64 k ∧ Gow wr w1.heap.size (stG s lg f k) b0' R qs ∧ Gfr s b0' R qs w3.heap.size ∧ Below w1.heap.size x5 wr ∧ (∀ b, b < x5.heap.size → b ≠ R → b ≠ w3.heap.size → wr.heap[b]? = x5.heap[b]?) ∧ (wr.cell? ⟨w3.heap.size, 0, none⟩ = some (.int .i64 s.epoch) ∧ wr.cell? ⟨w3.heap.size, 1, none⟩ = some (.int .i64 s.leader) ∧ wr.cell? ⟨w3.heap.size, 2, none⟩ = some (.slice b0' s.steps.length d0') ∧ wr.cell? ⟨w3.heap.size, 3, none⟩ = some (.int .i64 s.high) ∧ wr.cell? ⟨w3.heap.size, 4, none⟩ = some (.slice (some ⟨R, 0, none⟩) s.reps.length c1') ∧ ∀ o, wr.frozen? ⟨w3.heap.size, o, none⟩ = false)) (fun i _ => s.reps.length - (intOf i).toNat)
    case atStart => exact ⟨0, qs1, Nat.zero_le _, rfl, hG5, hFr, Below.refl _ _, fun _ _ _ _ => rfl, k0, k1, k2, k3, k4, kf⟩
    case round =>
      clear hG5 hFr k0 k1 k2 k3 k4 kf
      obtain ⟨k, qs, hk, rfl, hG, hFr, hB, hO, k0, k1, k2, k3, k4, kf⟩ := hrel
      have hzr := hB.size
      have y0 : wr.cell? ⟨w.heap.size, 0, none⟩ = some (.int .i64 s.epoch) := (hB.cell (p := ⟨w.heap.size, 0, none⟩) (by show w.heap.size < _; omega)).trans g0
      have y1 : wr.cell? ⟨w.heap.size, 1, none⟩ = some (.int .i64 s.leader) := (hB.cell (p := ⟨w.heap.size, 1, none⟩) (by show w.heap.size < _; omega)).trans g1
      have y2 : wr.cell? ⟨w.heap.size, 2, none⟩ = some (.slice a0 s.steps.length c0) := (hB.cell (p := ⟨w.heap.size, 2, none⟩) (by show w.heap.size < _; omega)).trans g2
      have y3 : wr.cell? ⟨w.heap.size, 3, none⟩ = some (.int .i64 s.high) := (hB.cell (p := ⟨w.heap.size, 3, none⟩) (by show w.heap.size < _; omega)).trans g3
      have y4 : wr.cell? ⟨w.heap.size, 4, none⟩ = some (.slice a1 s.reps.length c1) := (hB.cell (p := ⟨w.heap.size, 4, none⟩) (by show w.heap.size < _; omega)).trans g4
      have v0 : wr.cell? ⟨w.heap.size + 1, 0, none⟩ = some (.int .i64 0) := (hB.cell (p := ⟨w.heap.size + 1, 0, none⟩) (by show w.heap.size + 1 < _; omega)).trans z0
      have v1 : wr.cell? ⟨w.heap.size + 1, 1, none⟩ = some (.int .i64 0) := (hB.cell (p := ⟨w.heap.size + 1, 1, none⟩) (by show w.heap.size + 1 < _; omega)).trans z1
      have v2 : wr.cell? ⟨w.heap.size + 1, 2, none⟩ = some (.slice none 0 0) := (hB.cell (p := ⟨w.heap.size + 1, 2, none⟩) (by show w.heap.size + 1 < _; omega)).trans z2
      have v3 : wr.cell? ⟨w.heap.size + 1, 3, none⟩ = some (.int .i64 0) := (hB.cell (p := ⟨w.heap.size + 1, 3, none⟩) (by show w.heap.size + 1 < _; omega)).trans z3
      have v4 : wr.cell? ⟨w.heap.size + 1, 4, none⟩ = some (.slice none 0 0) := (hB.cell (p := ⟨w.heap.size + 1, 4, none⟩) (by show w.heap.size + 1 < _; omega)).trans z4
      have vf : ∀ o, wr.frozen? ⟨w.heap.size + 1, o, none⟩ = false := fun o => (hB.frozen (p := ⟨w.heap.size + 1, o, none⟩) (by show w.heap.size + 1 < _; omega)).trans (zf o)
      by_cases hlt : k < s.reps.length
      · have hki : (k : Int) < (s.reps.length : Int) := by omega
        by_cases hkf : k = f
        · have HKL : Hid (((k : Int) == s.leader) = true) := by show _ = _; rw [HF.out, hkf]; simp
          have HG2 : Hid (Gow wr w1.heap.size (stG s lg f (k + 1)) b0' R qs) := by
            show Gow _ _ _ _ _ _
            subst hkf
            rw [← stG_skip]
            exact hG
          clear hkf
          go_wp2_with fail
          refine (withFetch_f s k 30 _ _ _ _ _ (.inl HKL.out)).mono ?_
          rintro r w6 ⟨rfl, hB6⟩
          have BB := stGr hB6 (alGr w6 (.cells #[.int .i64 0, .int .i64 0, .slice none 0 0, .int .i64 0, .slice none 0 0] 25))
          have HG3 : Hid (Gow (w6.alloc (.cells #[.int .i64 0, .int .i64 0, .slice none 0 0, .int .i64 0, .slice none 0 0] 25)) w1.heap.size (stG s lg f (k + 1)) b0' R qs) := HG2.out.below BB
          have HB3 : Hid (Below w1.heap.size x5 (w6.alloc (.cells #[.int .i64 0, .int .i64 0, .slice none 0 0, .int .i64 0, .slice none 0 0] 25))) := hB.trans (BB.mono (by omega))
          have HO3 : Hid (∀ b, b < x5.heap.size → b ≠ R → b ≠ w3.heap.size → (w6.alloc (.cells #[.int .i64 0, .int .i64 0, .slice none 0 0, .int .i64 0, .slice none 0 0] 25)).heap[b]? = x5.heap[b]?) := fun b hb h1 h2 => (BB.block b (by omega)).trans (hO b hb h1 h2)
          have n0 := celB BB k0
          have n1 := celB BB k1
          have n2 := celB BB k2
          have n3 := celB BB k3
          have n4 := celB BB k4
          have nf : ∀ o, _ := fun o => frzB (o := o) BB (by omega) (kf o)
          have HN : Hid ((w6.alloc (.cells #[.int .i64 0, .int .i64 0, .slice none 0 0, .int .i64 0, .slice none 0 0] 25)).cell? ⟨w3.heap.size, 0, none⟩ = some (.int .i64 s.epoch) ∧ (w6.alloc (.cells #[.int .i64 0, .int .i64 0, .slice none 0 0, .int .i64 0, .slice none 0 0] 25)).cell? ⟨w3.heap.size, 1, none⟩ = some (.int .i64 s.leader) ∧ (w6.alloc (.cells #[.int .i64 0, .int .i64 0, .slice none 0 0, .int .i64 0, .slice none 0 0] 25)).cell? ⟨w3.heap.size, 2, none⟩ = some (.slice b0' s.steps.length d0') ∧ (w6.alloc (.cells #[.int .i64 0, .int .i64 0, .slice none 0 0, .int .i64 0, .slice none 0 0] 25)).cell? ⟨w3.heap.size, 3, none⟩ = some (.int .i64 s.high) ∧ (w6.alloc (.cells #[.int .i64 0, .int .i64 0, .slice none 0 0, .int .i64 0, .slice none 0 0] 25)).cell? ⟨w3.heap.size, 4, none⟩ = some (.slice (some ⟨R, 0, none⟩) s.reps.length c1') ∧ ∀ o, (w6.alloc (.cells #[.int .i64 0, .int .i64 0, .slice none 0 0, .int .i64 0, .slice none 0 0] 25)).frozen? ⟨w3.heap.size, o, none⟩ = false) := ⟨n0, n1, n2, n3, n4, nf⟩
          clear n0 n1 n2 n3 n4 nf HG2 hG hO
          go_wp2
          go_roundw
          case rel => exact ⟨k + 1, qs, by omega, by go_num, HG3.out, hFr, HB3.out, HO3.out, HN.out⟩
          case measure => simp [intOf]; omega
        · go_wp2_with fail
          refine (fetchS s lg f k w1.heap.size R qs _ _ _ _ hG HF.out hfn hlt hkf hn4 hh30).mono ?_
          rintro r w6 ⟨qs', rfl, hG6, hB6, hO6, hF6⟩
          have hz6 := hB6.size
          have BA := alGr w6 (.cells #[.int .i64 s.epoch, .int .i64 s.leader, .slice b0' s.steps.length d0', .int .i64 s.high, .slice (some ⟨R, 0, none⟩) s.reps.length c1'] 25)
          have c6 : ∀ o v, wr.cell? ⟨w3.heap.size, o, none⟩ = some v → (w6.alloc (.cells #[.int .i64 s.epoch, .int .i64 s.leader, .slice b0' s.steps.length d0', .int .i64 s.high, .slice (some ⟨R, 0, none⟩) s.reps.length c1'] 25)).cell? ⟨w3.heap.size, o, none⟩ = some v := fun o v h => celB BA ((World.cell?_of_block (a := ⟨w3.heap.size, o, none⟩) (hO6 w3.heap.size (by omega) (by omega))).trans h)
          have f6 : ∀ o, (w6.alloc (.cells #[.int .i64 s.epoch, .int .i64 s.leader, .slice b0' s.steps.length d0', .int .i64 s.high, .slice (some ⟨R, 0, none⟩) s.reps.length c1'] 25)).frozen? ⟨w3.heap.size, o, none⟩ = false := fun o => frzB BA (by omega) ((World.frozen?_of_block (a := ⟨w3.heap.size, o, none⟩) (hO6 w3.heap.size (by omega) (by omega))).trans (kf o))
          have n0 := c6 0 _ k0
          have n1 := c6 1 _ k1
          have n2 := c6 2 _ k2
          have n3 := c6 3 _ k3
          have n4 := c6 4 _ k4
          have HFn : Hid (Gfr s b0' R qs' w3.heap.size) := hF6 _ (by omega) hFr
          have HG7 : Hid (Gow ((((((w6.alloc (.cells #[.int .i64 s.epoch, .int .i64 s.leader, .slice b0' s.steps.length d0', .int .i64 s.high, .slice (some ⟨R, 0, none⟩) s.reps.length c1'] 25)).setCell ⟨w3.heap.size, 0, none⟩ (.int .i64 s.epoch)).setCell ⟨w3.heap.size, 1, none⟩ (.int .i64 s.leader)).setCell ⟨w3.heap.size, 2, none⟩ (.slice b0' s.steps.length d0')).setCell ⟨w3.heap.size, 3, none⟩ (.int .i64 s.high)).setCell ⟨w3.heap.size, 4, none⟩ (.slice (some ⟨R, 0, none⟩) s.reps.length c1')) w1.heap.size (stG s lg f (k + 1)) b0' R qs') := (((((hG6.below BA).setO' HFn.out _ _).setO' HFn.out _ _).setO' HFn.out _ _).setO' HFn.out _ _).setO' HFn.out _ _
          have HB7 : Hid (Below w1.heap.size x5 ((((((w6.alloc (.cells #[.int .i64 s.epoch, .int .i64 s.leader, .slice b0' s.steps.length d0', .int .i64 s.high, .slice (some ⟨R, 0, none⟩) s.reps.length c1'] 25)).setCell ⟨w3.heap.size, 0, none⟩ (.int .i64 s.epoch)).setCell ⟨w3.heap.size, 1, none⟩ (.int .i64 s.leader)).setCell ⟨w3.heap.size, 2, none⟩ (.slice b0' s.steps.length d0')).setCell ⟨w3.heap.size, 3, none⟩ (.int .i64 s.high)).setCell ⟨w3.heap.size, 4, none⟩ (.slice (some ⟨R, 0, none⟩) s.reps.length c1'))) := ((((((hB.trans hB6).trans (BA.mono (by omega))).setCell (by show _ ≤ w3.heap.size; omega) _).setCell (by show _ ≤ w3.heap.size; omega) _).setCell (by show _ ≤ w3.heap.size; omega) _).setCell (by show _ ≤ w3.heap.size; omega) _).setCell (by show _ ≤ w3.heap.size; omega) _
          have HO7 : Hid (∀ b, b < x5.heap.size → b ≠ R → b ≠ w3.heap.size → ((((((w6.alloc (.cells #[.int .i64 s.epoch, .int .i64 s.leader, .slice b0' s.steps.length d0', .int .i64 s.high, .slice (some ⟨R, 0, none⟩) s.reps.length c1'] 25)).setCell ⟨w3.heap.size, 0, none⟩ (.int .i64 s.epoch)).setCell ⟨w3.heap.size, 1, none⟩ (.int .i64 s.leader)).setCell ⟨w3.heap.size, 2, none⟩ (.slice b0' s.steps.length d0')).setCell ⟨w3.heap.size, 3, none⟩ (.int .i64 s.high)).setCell ⟨w3.heap.size, 4, none⟩ (.slice (some ⟨R, 0, none⟩) s.reps.length c1')).heap[b]? = x5.heap[b]?) := fun b hb h1 h2 => by rw [Below.heap_setCell _ ⟨w3.heap.size, _, none⟩ _ b (fun e => h2 e), Below.heap_setCell _ ⟨w3.heap.size, _, none⟩ _ b (fun e => h2 e), Below.heap_setCell _ ⟨w3.heap.size, _, none⟩ _ b (fun e => h2 e), Below.heap_setCell _ ⟨w3.heap.size, _, none⟩ _ b (fun e => h2 e), Below.heap_setCell _ ⟨w3.heap.size, _, none⟩ _ b (fun e => h2 e), BA.block b (by omega), hO6 b (by omega) h1]; exact hO b hb h1 h2
          have HN : Hid (((((((w6.alloc (.cells #[.int .i64 s.epoch, .int .i64 s.leader, .slice b0' s.steps.length d0', .int .i64 s.high, .slice (some ⟨R, 0, none⟩) s.reps.length c1'] 25)).setCell ⟨w3.heap.size, 0, none⟩ (.int .i64 s.epoch)).setCell ⟨w3.heap.size, 1, none⟩ (.int .i64 s.leader)).setCell ⟨w3.heap.size, 2, none⟩ (.slice b0' s.steps.length d0')).setCell ⟨w3.heap.size, 3, none⟩ (.int .i64 s.high)).setCell ⟨w3.heap.size, 4, none⟩ (.slice (some ⟨R, 0, none⟩) s.reps.length c1')).cell? ⟨w3.heap.size, 0, none⟩ = some (.int .i64 s.epoch) ∧ ((((((w6.alloc (.cells #[.int .i64 s.epoch, .int .i64 s.leader, .slice b0' s.steps.length d0', .int .i64 s.high, .slice (some ⟨R, 0, none⟩) s.reps.length c1'] 25)).setCell ⟨w3.heap.size, 0, none⟩ (.int .i64 s.epoch)).setCell ⟨w3.heap.size, 1, none⟩ (.int .i64 s.leader)).setCell ⟨w3.heap.size, 2, none⟩ (.slice b0' s.steps.length d0')).setCell ⟨w3.heap.size, 3, none⟩ (.int .i64 s.high)).setCell ⟨w3.heap.size, 4, none⟩ (.slice (some ⟨R, 0, none⟩) s.reps.length c1')).cell? ⟨w3.heap.size, 1, none⟩ = some (.int .i64 s.leader) ∧ ((((((w6.alloc (.cells #[.int .i64 s.epoch, .int .i64 s.leader, .slice b0' s.steps.length d0', .int .i64 s.high, .slice (some ⟨R, 0, none⟩) s.reps.length c1'] 25)).setCell ⟨w3.heap.size, 0, none⟩ (.int .i64 s.epoch)).setCell ⟨w3.heap.size, 1, none⟩ (.int .i64 s.leader)).setCell ⟨w3.heap.size, 2, none⟩ (.slice b0' s.steps.length d0')).setCell ⟨w3.heap.size, 3, none⟩ (.int .i64 s.high)).setCell ⟨w3.heap.size, 4, none⟩ (.slice (some ⟨R, 0, none⟩) s.reps.length c1')).cell? ⟨w3.heap.size, 2, none⟩ = some (.slice b0' s.steps.length d0') ∧ ((((((w6.alloc (.cells #[.int .i64 s.epoch, .int .i64 s.leader, .slice b0' s.steps.length d0', .int .i64 s.high, .slice (some ⟨R, 0, none⟩) s.reps.length c1'] 25)).setCell ⟨w3.heap.size, 0, none⟩ (.int .i64 s.epoch)).setCell ⟨w3.heap.size, 1, none⟩ (.int .i64 s.leader)).setCell ⟨w3.heap.size, 2, none⟩ (.slice b0' s.steps.length d0')).setCell ⟨w3.heap.size, 3, none⟩ (.int .i64 s.high)).setCell ⟨w3.heap.size, 4, none⟩ (.slice (some ⟨R, 0, none⟩) s.reps.length c1')).cell? ⟨w3.heap.size, 3, none⟩ = some (.int .i64 s.high) ∧ ((((((w6.alloc (.cells #[.int .i64 s.epoch, .int .i64 s.leader, .slice b0' s.steps.length d0', .int .i64 s.high, .slice (some ⟨R, 0, none⟩) s.reps.length c1'] 25)).setCell ⟨w3.heap.size, 0, none⟩ (.int .i64 s.epoch)).setCell ⟨w3.heap.size, 1, none⟩ (.int .i64 s.leader)).setCell ⟨w3.heap.size, 2, none⟩ (.slice b0' s.steps.length d0')).setCell ⟨w3.heap.size, 3, none⟩ (.int .i64 s.high)).setCell ⟨w3.heap.size, 4, none⟩ (.slice (some ⟨R, 0, none⟩) s.reps.length c1')).cell? ⟨w3.heap.size, 4, none⟩ = some (.slice (some ⟨R, 0, none⟩) s.reps.length c1') ∧ ∀ o, ((((((w6.alloc (.cells #[.int .i64 s.epoch, .int .i64 s.leader, .slice b0' s.steps.length d0', .int .i64 s.high, .slice (some ⟨R, 0, none⟩) s.reps.length c1'] 25)).setCell ⟨w3.heap.size, 0, none⟩ (.int .i64 s.epoch)).setCell ⟨w3.heap.size, 1, none⟩ (.int .i64 s.leader)).setCell ⟨w3.heap.size, 2, none⟩ (.slice b0' s.steps.length d0')).setCell ⟨w3.heap.size, 3, none⟩ (.int .i64 s.high)).setCell ⟨w3.heap.size, 4, none⟩ (.slice (some ⟨R, 0, none⟩) s.reps.length c1')).frozen? ⟨w3.heap.size, o, none⟩ = false) := by
            refine ⟨?_, ?_, ?_, ?_, ?_, fun o => ?_⟩
            all_goals simp [go_sem, n0, n1, n2, n3, n4, f6]
          clear hG6 hO6 hF6 hG hO c6 hkf
          go_wp2
          go_roundw
          case rel => exact ⟨k + 1, qs', by omega, by go_num, HG7.out, HFn.out, HB7.out, HO7.out, HN.out⟩
          case measure => simp [intOf]; omega
      · obtain rfl : k = s.reps.length := by omega
        have BW : Below w.heap.size w wr := b5w.trans (hB.mono (by omega))
        have hst7 : stTo 0 1 s.reps.length < 128 := stTo_lt (many := s.reps.length) (fun k hk => by omega) _ (Nat.le_refl _)
        have HMI : Hid (mi (stTo 0 1 s.reps.length) = iotaZ s.reps.length) := miSt hn4
        go_wp2_with fail
        refine (inSteps_any 0 1 s.reps.length (by omega) (by omega) (by omega) (fun k hk => by omega) _).mono ?_
        rintro r w7 ⟨rfl, hB7⟩
        have hz7 := hB7.size
        go_wp2_with fail
        refine (list_any (stTo 0 1 s.reps.length) hst7 _ (HT.bel (stGr BW hB7))).mono ?_
        intro r w8 hAns
        obtain ⟨bv, dv, hr, -, -, HI8, HR8, hB8⟩ := hAns.ints
        rw [HMI.out, iotaZ_len] at hr
        rw [HMI.out] at HI8 HR8
        subst hr
        have BQ := stGr hB7 hB8
        have hz8 := hB8.size
        have hRr := hG.og.size
        replace k0 := celB BQ k0
        replace k1 := celB BQ k1
        replace k2 := celB BQ k2
        replace k3 := celB BQ k3
        replace k4 := celB BQ k4
        replace kf := fun o => frzB (o := o) BQ (by omega) (kf o)
        replace y0 := celB BQ y0
        replace y1 := celB BQ y1
        replace y2 := celB BQ y2
        replace y3 := celB BQ y3
        replace y4 := celB BQ y4
        replace v0 := celB BQ v0
        replace v1 := celB BQ v1
        replace v2 := celB BQ v2
        replace v3 := celB BQ v3
        replace v4 := celB BQ v4
        replace vf := fun o => frzB (o := o) BQ (by omega) (vf o)
        have B8 := stGr BW BQ
        obtain ⟨x8, hx8⟩ : ∃ u, (w8.setCell ⟨w3.heap.size, 2, none⟩ (.slice bv s.reps.length dv)) = u := ⟨_, rfl⟩
        have hz9 : x8.heap.size = w8.heap.size := by rw [← hx8]; simp
        have HG8 : Hid (Gow x8 w1.heap.size ⟨s.epoch, s.leader, iotaZ s.reps.length, s.high, List.replicate s.reps.length (rpN s lg)⟩ bv R qs) := by
          show Gow _ _ _ _ _ _
          have hA : Gow w8 w1.heap.size ⟨s.epoch, s.leader, iotaZ s.reps.length, s.high, List.replicate s.reps.length (rpN s lg)⟩ bv R qs := (hG.below BQ).newSteps _ (by show List.replicate _ _ = stR s lg f _; rw [stR_done]) bv HI8 (HR8.mono (by omega)) (fun b hi => by have := (HR8.lt hi).1; omega)
          rw [← hx8]
          refine hA.setO' (fun c hc => ?_) _ _
          rcases hc with hc | hc | hc
          · have := (HR8.lt hc).1; omega
          · exact hFr c (.inr (.inl hc))
          · exact hFr c (.inr (.inr hc))
        have m0 : x8.cell? ⟨w3.heap.size, 0, none⟩ = some (.int .i64 s.epoch) := by rw [← hx8]; simp [go_sem, k0]
        have m1 : x8.cell? ⟨w3.heap.size, 1, none⟩ = some (.int .i64 s.leader) := by rw [← hx8]; simp [go_sem, k1]
        have m2 : x8.cell? ⟨w3.heap.size, 2, none⟩ = some (.slice bv s.reps.length dv) := by rw [← hx8]; simp [go_sem, k2]
        have m3 : x8.cell? ⟨w3.heap.size, 3, none⟩ = some (.int .i64 s.high) := by rw [← hx8]; simp [go_sem, k3]
        have m4 : x8.cell? ⟨w3.heap.size, 4, none⟩ = some (.slice (some ⟨R, 0, none⟩) s.reps.length c1') := by rw [← hx8]; simp [go_sem, k4]
        have mf : ∀ o, x8.frozen? ⟨w3.heap.size, o, none⟩ = false := fun o => by rw [← hx8]; simp [go_sem, kf]
        replace y0 : x8.cell? ⟨w.heap.size, 0, none⟩ = some (.int .i64 s.epoch) := by rw [← hx8, World.cell?_setCell_other _ _ _ _ (by first | (simp; done) | (simp; omega))]; exact y0
        replace y1 : x8.cell? ⟨w.heap.size, 1, none⟩ = some (.int .i64 s.leader) := by rw [← hx8, World.cell?_setCell_other _ _ _ _ (by first | (simp; done) | (simp; omega))]; exact y1
        replace y2 : x8.cell? ⟨w.heap.size, 2, none⟩ = some (.slice a0 s.steps.length c0) := by rw [← hx8, World.cell?_setCell_other _ _ _ _ (by first | (simp; done) | (simp; omega))]; exact y2
        replace y3 : x8.cell? ⟨w.heap.size, 3, none⟩ = some (.int .i64 s.high) := by rw [← hx8, World.cell?_setCell_other _ _ _ _ (by first | (simp; done) | (simp; omega))]; exact y3
        replace y4 : x8.cell? ⟨w.heap.size, 4, none⟩ = some (.slice a1 s.reps.length c1) := by rw [← hx8, World.cell?_setCell_other _ _ _ _ (by first | (simp; done) | (simp; omega))]; exact y4
        replace v0 : x8.cell? ⟨w.heap.size + 1, 0, none⟩ = some (.int .i64 0) := by rw [← hx8, World.cell?_setCell_other _ _ _ _ (by first | (simp; done) | (simp; omega))]; exact v0
        replace v1 : x8.cell? ⟨w.heap.size + 1, 1, none⟩ = some (.int .i64 0) := by rw [← hx8, World.cell?_setCell_other _ _ _ _ (by first | (simp; done) | (simp; omega))]; exact v1
        replace v2 : x8.cell? ⟨w.heap.size + 1, 2, none⟩ = some (.slice none 0 0) := by rw [← hx8, World.cell?_setCell_other _ _ _ _ (by first | (simp; done) | (simp; omega))]; exact v2
        replace v3 : x8.cell? ⟨w.heap.size + 1, 3, none⟩ = some (.int .i64 0) := by rw [← hx8, World.cell?_setCell_other _ _ _ _ (by first | (simp; done) | (simp; omega))]; exact v3
        replace v4 : x8.cell? ⟨w.heap.size + 1, 4, none⟩ = some (.slice none 0 0) := by rw [← hx8, World.cell?_setCell_other _ _ _ _ (by first | (simp; done) | (simp; omega))]; exact v4
        replace vf : ∀ o, x8.frozen? ⟨w.heap.size + 1, o, none⟩ = false := fun o => by rw [← hx8]; simp [go_sem, vf]
        have B9 : Below w.heap.size w x8 := by rw [← hx8]; exact B8.setCell (by show _ ≤ w3.heap.size; omega) _
        have kf2 := kf 2
        have HFr8 : Hid (∀ c, (InI bv (iotaZ s.reps.length).length c ∨ c = R ∨ ∃ (i : Nat) (q : Rq), qs[i]? = some q ∧ InI q.a q.p.log.length c) → c ≠ w3.heap.size) := fun c hc => by
          rcases hc with hc | hc | hc
          · have := (HR8.lt hc).1; omega
          · exact hFr c (.inr (.inl hc))
          · exact hFr c (.inr (.inr hc))
        go_wp2_with fail
        try rw [hx8]
        clear hx8 hG hO hFr hAns HI8 HR8 kf kf2 k0 k1 k2 k3 k4 BQ hB7 hB8
        refine (raiseS s lg f w1.heap.size R qs _ _ _ _ HF.out hfn hn4 hh30 HG8.out).mono ?_
        rintro r w10 ⟨hor, hB10⟩
        replace m0 := celB hB10 m0
        replace m1 := celB hB10 m1
        replace m2 := celB hB10 m2
        replace m3 := celB hB10 m3
        replace m4 := celB hB10 m4
        replace mf := fun o => frzB (o := o) hB10 (by omega) (mf o)
        replace y0 := celB hB10 y0
        replace y1 := celB hB10 y1
        replace y2 := celB hB10 y2
        replace y3 := celB hB10 y3
        replace y4 := celB hB10 y4
        replace v0 := celB hB10 v0
        replace v1 := celB hB10 v1
        replace v2 := celB hB10 v2
        replace v3 := celB hB10 v3
        replace v4 := celB hB10 v4
        replace vf := fun o => frzB (o := o) hB10 (by omega) (vf o)
        have HG10 := HG8.out.below hB10
        have B10 := stGr B9 hB10
        have hz10 := hB10.size
        clear hB10 HG8
        rcases hor with ⟨hgt, hr⟩ | ⟨hgt, hr⟩
        · subst hr
          obtain ⟨x11, hx11⟩ : ∃ u, (w10.alloc (.cells #[.int .i64 s.epoch, .int .i64 s.leader, .slice bv s.reps.length dv, .int .i64 (lg.length : Int), .slice (some ⟨R, 0, none⟩) s.reps.length c1'] 25)) = u := ⟨_, rfl⟩
          have BA : Below w10.heap.size w10 x11 := by rw [← hx11]; exact alGr _ _
          have hzA : x11.heap.size = w10.heap.size + 1 := by rw [← hx11]; simp
          replace m0 := celB BA m0
          replace m1 := celB BA m1
          replace m2 := celB BA m2
          replace m3 := celB BA m3
          replace m4 := celB BA m4
          replace mf := fun o => frzB (o := o) BA (by omega) (mf o)
          replace y0 := celB BA y0
          replace y1 := celB BA y1
          replace y2 := celB BA y2
          replace y3 := celB BA y3
          replace y4 := celB BA y4
          replace v0 := celB BA v0
          replace v1 := celB BA v1
          replace v2 := celB BA v2
          replace v3 := celB BA v3
          replace v4 := celB BA v4
          replace vf := fun o => frzB (o := o) BA (by omega) (vf o)
          replace HG10 := HG10.below BA
          replace B10 := stGr B10 BA
          have e0 : x11.cell? ⟨w10.heap.size, 0, none⟩ = some (.int .i64 s.epoch) := by rw [← hx11]; simp [go_sem]
          have e1 : x11.cell? ⟨w10.heap.size, 1, none⟩ = some (.int .i64 s.leader) := by rw [← hx11]; simp [go_sem]
          have e2 : x11.cell? ⟨w10.heap.size, 2, none⟩ = some (.slice bv s.reps.length dv) := by rw [← hx11]; simp [go_sem]
          have e3 : x11.cell? ⟨w10.heap.size, 3, none⟩ = some (.int .i64 (lg.length : Int)) := by rw [← hx11]; simp [go_sem]
          have e4 : x11.cell? ⟨w10.heap.size, 4, none⟩ = some (.slice (some ⟨R, 0, none⟩) s.reps.length c1') := by rw [← hx11]; simp [go_sem]
          obtain ⟨x12, hx12⟩ : ∃ u, (((((x11.setCell ⟨w3.heap.size, 0, none⟩ (.int .i64 s.epoch)).setCell ⟨w3.heap.size, 1, none⟩ (.int .i64 s.leader)).setCell ⟨w3.heap.size, 2, none⟩ (.slice bv s.reps.length dv)).setCell ⟨w3.heap.size, 3, none⟩ (.int .i64 (lg.length : Int))).setCell ⟨w3.heap.size, 4, none⟩ (.slice (some ⟨R, 0, none⟩) s.reps.length c1')) = u := ⟨_, rfl⟩
          have n0 : x12.cell? ⟨w3.heap.size, 0, none⟩ = some (.int .i64 s.epoch) := by rw [← hx12]; simp [go_sem, m0]
          have n1 : x12.cell? ⟨w3.heap.size, 1, none⟩ = some (.int .i64 s.leader) := by rw [← hx12]; simp [go_sem, m1]
          have n2 : x12.cell? ⟨w3.heap.size, 2, none⟩ = some (.slice bv s.reps.length dv) := by rw [← hx12]; simp [go_sem, m2]
          have n3 : x12.cell? ⟨w3.heap.size, 3, none⟩ = some (.int .i64 (lg.length : Int)) := by rw [← hx12]; simp [go_sem, m3]
          have n4 : x12.cell? ⟨w3.heap.size, 4, none⟩ = some (.slice (some ⟨R, 0, none⟩) s.reps.length c1') := by rw [← hx12]; simp [go_sem, m4]
          replace y0 : x12.cell? ⟨w.heap.size, 0, none⟩ = some (.int .i64 s.epoch) := by rw [← hx12, World.cell?_setCell_other _ _ _ _ (by first | (simp; done) | (simp; omega)), World.cell?_setCell_other _ _ _ _ (by first | (simp; done) | (simp; omega)), World.cell?_setCell_other _ _ _ _ (by first | (simp; done) | (simp; omega)), World.cell?_setCell_other _ _ _ _ (by first | (simp; done) | (simp; omega)), World.cell?_setCell_other _ _ _ _ (by first | (simp; done) | (simp; omega))]; exact y0
          replace y1 : x12.cell? ⟨w.heap.size, 1, none⟩ = some (.int .i64 s.leader) := by rw [← hx12, World.cell?_setCell_other _ _ _ _ (by first | (simp; done) | (simp; omega)), World.cell?_setCell_other _ _ _ _ (by first | (simp; done) | (simp; omega)), World.cell?_setCell_other _ _ _ _ (by first | (simp; done) | (simp; omega)), World.cell?_setCell_other _ _ _ _ (by first | (simp; done) | (simp; omega)), World.cell?_setCell_other _ _ _ _ (by first | (simp; done) | (simp; omega))]; exact y1
          replace y2 : x12.cell? ⟨w.heap.size, 2, none⟩ = some (.slice a0 s.steps.length c0) := by rw [← hx12, World.cell?_setCell_other _ _ _ _ (by first | (simp; done) | (simp; omega)), World.cell?_setCell_other _ _ _ _ (by first | (simp; done) | (simp; omega)), World.cell?_setCell_other _ _ _ _ (by first | (simp; done) | (simp; omega)), World.cell?_setCell_other _ _ _ _ (by first | (simp; done) | (simp; omega)), World.cell?_setCell_other _ _ _ _ (by first | (simp; done) | (simp; omega))]; exact y2
          replace y3 : x12.cell? ⟨w.heap.size, 3, none⟩ = some (.int .i64 s.high) := by rw [← hx12, World.cell?_setCell_other _ _ _ _ (by first | (simp; done) | (simp; omega)), World.cell?_setCell_other _ _ _ _ (by first | (simp; done) | (simp; omega)), World.cell?_setCell_other _ _ _ _ (by first | (simp; done) | (simp; omega)), World.cell?_setCell_other _ _ _ _ (by first | (simp; done) | (simp; omega)), World.cell?_setCell_other _ _ _ _ (by first | (simp; done) | (simp; omega))]; exact y3
          replace y4 : x12.cell? ⟨w.heap.size, 4, none⟩ = some (.slice a1 s.reps.length c1) := by rw [← hx12, World.cell?_setCell_other _ _ _ _ (by first | (simp; done) | (simp; omega)), World.cell?_setCell_other _ _ _ _ (by first | (simp; done) | (simp; omega)), World.cell?_setCell_other _ _ _ _ (by first | (simp; done) | (simp; omega)), World.cell?_setCell_other _ _ _ _ (by first | (simp; done) | (simp; omega)), World.cell?_setCell_other _ _ _ _ (by first | (simp; done) | (simp; omega))]; exact y4
          replace v0 : x12.cell? ⟨w.heap.size + 1, 0, none⟩ = some (.int .i64 0) := by rw [← hx12, World.cell?_setCell_other _ _ _ _ (by first | (simp; done) | (simp; omega)), World.cell?_setCell_other _ _ _ _ (by first | (simp; done) | (simp; omega)), World.cell?_setCell_other _ _ _ _ (by first | (simp; done) | (simp; omega)), World.cell?_setCell_other _ _ _ _ (by first | (simp; done) | (simp; omega)), World.cell?_setCell_other _ _ _ _ (by first | (simp; done) | (simp; omega))]; exact v0
          replace v1 : x12.cell? ⟨w.heap.size + 1, 1, none⟩ = some (.int .i64 0) := by rw [← hx12, World.cell?_setCell_other _ _ _ _ (by first | (simp; done) | (simp; omega)), World.cell?_setCell_other _ _ _ _ (by first | (simp; done) | (simp; omega)), World.cell?_setCell_other _ _ _ _ (by first | (simp; done) | (simp; omega)), World.cell?_setCell_other _ _ _ _ (by first | (simp; done) | (simp; omega)), World.cell?_setCell_other _ _ _ _ (by first | (simp; done) | (simp; omega))]; exact v1
          replace v2 : x12.cell? ⟨w.heap.size + 1, 2, none⟩ = some (.slice none 0 0) := by rw [← hx12, World.cell?_setCell_other _ _ _ _ (by first | (simp; done) | (simp; omega)), World.cell?_setCell_other _ _ _ _ (by first | (simp; done) | (simp; omega)), World.cell?_setCell_other _ _ _ _ (by first | (simp; done) | (simp; omega)), World.cell?_setCell_other _ _ _ _ (by first | (simp; done) | (simp; omega)), World.cell?_setCell_other _ _ _ _ (by first | (simp; done) | (simp; omega))]; exact v2
          replace v3 : x12.cell? ⟨w.heap.size + 1, 3, none⟩ = some (.int .i64 0) := by rw [← hx12, World.cell?_setCell_other _ _ _ _ (by first | (simp; done) | (simp; omega)), World.cell?_setCell_other _ _ _ _ (by first | (simp; done) | (simp; omega)), World.cell?_setCell_other _ _ _ _ (by first | (simp; done) | (simp; omega)), World.cell?_setCell_other _ _ _ _ (by first | (simp; done) | (simp; omega)), World.cell?_setCell_other _ _ _ _ (by first | (simp; done) | (simp; omega))]; exact v3
          replace v4 : x12.cell? ⟨w.heap.size + 1, 4, none⟩ = some (.slice none 0 0) := by rw [← hx12, World.cell?_setCell_other _ _ _ _ (by first | (simp; done) | (simp; omega)), World.cell?_setCell_other _ _ _ _ (by first | (simp; done) | (simp; omega)), World.cell?_setCell_other _ _ _ _ (by first | (simp; done) | (simp; omega)), World.cell?_setCell_other _ _ _ _ (by first | (simp; done) | (simp; omega)), World.cell?_setCell_other _ _ _ _ (by first | (simp; done) | (simp; omega))]; exact v4
          replace vf : ∀ o, x12.frozen? ⟨w.heap.size + 1, o, none⟩ = false := fun o => by rw [← hx12]; simp [go_sem, vf]
          have HG12 : Gow x12 w1.heap.size ⟨s.epoch, s.leader, iotaZ s.reps.length, s.high, List.replicate s.reps.length (rpN s lg)⟩ bv R qs := by rw [← hx12]; exact ((((HG10.setO' HFr8.out _ _).setO' HFr8.out _ _).setO' HFr8.out _ _).setO' HFr8.out _ _).setO' HFr8.out _ _
          have B12 : Below w.heap.size w x12 := by rw [← hx12]; exact ((((B10.setCell (by show _ ≤ w3.heap.size; omega) _).setCell (by show _ ≤ w3.heap.size; omega) _).setCell (by show _ ≤ w3.heap.size; omega) _).setCell (by show _ ≤ w3.heap.size; omega) _).setCell (by show _ ≤ w3.heap.size; omega) _
          have hz12 : x12.heap.size = x11.heap.size := by rw [← hx12]; simp
          have hwr : IntKind.i64.wrap ((lg.length : Int) - s.high) = (lg.length : Int) - s.high := by rw [IntKind.wrap_i64]; omega
          have HG13 : Hid (Gow x12 w1.heap.size ⟨s.epoch, s.leader, iotaZ s.reps.length, (lg.length : Int), List.replicate s.reps.length (rpN s lg)⟩ bv R qs) := HG12.re rfl rfl
          go_wp2_with fail
          try rw [hx11]
          try rw [hx12]
          clear hx12
          clear hx11 HG10 HG12 m0 m1 m2 m3 m4 mf e0 e1 e2 e3 e4
          go_region
          go_wp2
          refine bodyPost_ret (v := .tuple #[.agg #[.int .i64 s.epoch, .int .i64 s.leader, .slice bv s.reps.length dv, .int .i64 (lg.length : Int), .slice (some ⟨R, 0, none⟩) s.reps.length c1'], .int .i64 ((lg.length : Int) - s.high), .bool true]) (by simp [results, Tryd.results27, go_sem, v0, v1, v2, v3, v4]) rfl ⟨bv, some ⟨R, 0, none⟩, dv, c1', (fun j => (qs.getD j ⟨⟨[], 0, 0⟩, none, 0⟩).a), (fun j => (qs.getD j ⟨⟨[], 0, 0⟩, none, 0⟩).c), ?_, ?_, ?_⟩
          · rw [HE.out.1, HE.out.2]; simp [iotaZ_len]
          · rw [HE.out.1]
            exact ((((((HG13.out.setO (by omega) _ _).setO (by omega) _ _).setO (by omega) _ _).setO (by omega) _ _).setO (by omega) _ _).mono (by omega)).out.below (Below.refl _ _).drew
          · exact (((((B12.setCell (by simp) _).setCell (by simp) _).setCell (by simp) _).setCell (by simp) _).setCell (by simp) _).drew
        · have hEq0 : s.high = (lg.length : Int) := by omega
          have HEQ : Hid (s.high = (lg.length : Int)) := hEq0
          clear hEq0
          subst hr
          clear hgt
          obtain ⟨x11, hx11⟩ : ∃ u, (w10.alloc (.cells #[.int .i64 0, .int .i64 0, .slice none 0 0, .int .i64 0, .slice none 0 0] 25)) = u := ⟨_, rfl⟩
          have BA : Below w10.heap.size w10 x11 := by rw [← hx11]; exact alGr _ _
          have hzA : x11.heap.size = w10.heap.size + 1 := by rw [← hx11]; simp
          replace m0 := celB BA m0
          replace m1 := celB BA m1
          replace m2 := celB BA m2
          replace m3 := celB BA m3
          replace m4 := celB BA m4
          replace mf := fun o => frzB (o := o) BA (by omega) (mf o)
          replace y0 := celB BA y0
          replace y1 := celB BA y1
          replace y2 := celB BA y2
          replace y3 := celB BA y3
          replace y4 := celB BA y4
          replace v0 := celB BA v0
          replace v1 := celB BA v1
          replace v2 := celB BA v2
          replace v3 := celB BA v3
          replace v4 := celB BA v4
          replace vf := fun o => frzB (o := o) BA (by omega) (vf o)
          replace HG10 := HG10.below BA
          replace B10 := stGr B10 BA
          obtain ⟨x12, hx12⟩ : ∃ u, x11 = u := ⟨_, rfl⟩
          subst hx12
          have HG12 := HG10
          have B12 := B10
          have hz12 : x11.heap.size = x11.heap.size := rfl
          have n0 := m0
          have n1 := m1
          have n2 := m2
          have n3 := m3
          have n4 := m4
          have hwr : IntKind.i64.wrap (s.high - s.high) = s.high - s.high := by rw [IntKind.wrap_i64]; omega
          have HG13 : Hid (Gow x11 w1.heap.size ⟨s.epoch, s.leader, iotaZ s.reps.length, (lg.length : Int), List.replicate s.reps.length (rpN s lg)⟩ bv R qs) := HG12.re rfl rfl
          have HX11 : Hid ((w10.alloc (.cells #[.int .i64 0, .int .i64 0, .slice none 0 0, .int .i64 0, .slice none 0 0] 25)) = x11) := hx11
          clear hx11
          go_wp2_with fail
          rw [HX11.out]
          clear HX11 HG10 HG12 m0 m1 m2 m3 m4 mf
          go_region
          go_wp2
          refine bodyPost_ret (v := .tuple #[.agg #[.int .i64 s.epoch, .int .i64 s.leader, .slice bv s.reps.length dv, .int .i64 s.high, .slice (some ⟨R, 0, none⟩) s.reps.length c1'], .int .i64 (s.high - s.high), .bool true]) (by simp [results, Tryd.results27, go_sem, v0, v1, v2, v3, v4]) rfl ⟨bv, some ⟨R, 0, none⟩, dv, c1', (fun j => (qs.getD j ⟨⟨[], 0, 0⟩, none, 0⟩).a), (fun j => (qs.getD j ⟨⟨[], 0, 0⟩, none, 0⟩).c), ?_, ?_, ?_⟩
          · rw [HE.out.1, HE.out.2]; simp [iotaZ_len, HEQ.out]
          · rw [HE.out.1]
            exact ((((((HG13.out.setO (by omega) _ _).setO (by omega) _ _).setO (by omega) _ _).setO (by omega) _ _).setO (by omega) _ _).mono (by omega)).out.below (Below.refl _ _).drew
          · exact (((((B12.setCell (by simp) _).setCell (by simp) _).setCell (by simp) _).setCell (by simp) _).setCell (by simp) _).drew

end Go.Proofs.YtkhbgdnhkaeamaaDoor
