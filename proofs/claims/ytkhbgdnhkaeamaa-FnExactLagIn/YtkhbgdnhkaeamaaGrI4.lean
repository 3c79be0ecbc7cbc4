/-
  Groups, the program's side: impl.LagIn. Made by mkgri2.py.
-/
import Derived.Test.YtkhbgdnhkaeamaaGrI3
import Derived.Test.YtkhbgdnhkaeamaaGrS3
namespace Go.Proofs.Ytkhbgdnhkaeamaa
open Go.RowKit

set_option maxRecDepth 100000 in
set_option maxHeartbeats 4000000 in
theorem lag_any (now : Int) (lg xs : List Rw) (rb a : Option Addr) (kb c n : Nat) (w : World) (hb : Rws w rb lg) (hx : Rws w a xs) (hl : lg.length ≤ maxLen) (h : sameN lg xs = n) :
    Calls Try.prog 42 #[foV now lg rb kb, .slice a xs.length c] w fun r w' => r = .returned (.int .i64 ((lg.length : Int) - (n : Int))) ∧ Below w.heap.size w w' := by
  have hl' := hl
  unfold maxLen at hl'
  have hnl := (sameN_le lg xs).1
  rw [h] at hnl
  have hni : (n : Int) ≤ (lg.length : Int) := by omega
  obtain ⟨u2, hu2⟩ : ∃ u, (w.alloc (.cells #[.int .i64 now, .slice rb lg.length kb] 56)) = u := ⟨_, rfl⟩
  have BU : Below w.heap.size w u2.drew := by rw [← hu2]; exact (alGr _ _).drew
  have kk2 : u2.drew.cell? ⟨w.heap.size, 0, none⟩ = some (.int .i64 now) ∧ u2.drew.cell? ⟨w.heap.size, 1, none⟩ = some (.slice rb lg.length kb) := by rw [← hu2]; simp [go_sem]
  go_enter Try.func42, Try.ntmps42
  go_wp2_with fail
  try rw [hu2]
  refine wp_region_noPanic ?_
  refine wp_region_held_drew (S := fun w' => w'.cell? ⟨w.heap.size, 0, none⟩ = some (.int .i64 now) ∧ w'.cell? ⟨w.heap.size, 1, none⟩ = some (.slice rb lg.length kb)) (by kernel_rfl) kk2 (fun hH => ?_)
  refine wpAnyH_take (i := 0) (oi := ⟨_, _, _, _, _, _⟩) (v := ?vl0) rfl (by kernel_rfl) (by kernel_rfl) (by kernel_rfl) (fun _ _ _ h => h) (Or.inl ⟨by rfl, ?yl0⟩) (by assumption) ?rl0
  case yl0 => intro w hSw; (try dsimp only at hSw); go_simp; try with_reducible rfl
  try simp only [Act.put, List.setIfInBounds_toArray, List.set_cons_zero, List.set_cons_succ]
  refine wpAnyH_take (i := 1) (oi := ⟨_, _, _, _, _, _⟩) (v := ?vl1) rfl (by kernel_rfl) (by kernel_rfl) (by kernel_rfl) (fun _ _ _ h => h) (Or.inl ⟨by rfl, ?yl1⟩) (by assumption) ?rl1
  case yl1 => intro w hSw; (try dsimp only at hSw); go_simp; try with_reducible rfl
  try simp only [Act.put, List.setIfInBounds_toArray, List.set_cons_zero, List.set_cons_succ]
  refine wpAnyH_take (i := 2) (oi := ⟨_, _, _, _, _, _⟩) (v := ?vl2) rfl (by kernel_rfl) (by kernel_rfl) (by kernel_rfl) (fun _ _ _ h => h) (Or.inl ⟨by rfl, ?yl2⟩) (by assumption) ?rl2
  case yl2 => intro w hSw; (try dsimp only at hSw); go_simp; try with_reducible rfl
  try simp only [Act.put, List.setIfInBounds_toArray, List.set_cons_zero, List.set_cons_succ]
  refine wpAnyH_take (i := 3) (oi := ⟨_, _, _, _, _, _⟩) (v := ?vl3) rfl (by kernel_rfl) (by kernel_rfl) (by kernel_rfl) (fun _ _ _ h => h) (Or.inl ⟨by rfl, ?yl3⟩) (by assumption) ?rl3
  case yl3 => intro w hSw; (try dsimp only at hSw); go_simp; try with_reducible rfl
  try simp only [Act.put, List.setIfInBounds_toArray, List.set_cons_zero, List.set_cons_succ]
  refine wpAnyH_take (i := 4) (oi := ⟨_, _, _, _, _, _⟩) (v := ?vl4) rfl (by kernel_rfl) (by kernel_rfl) (by kernel_rfl) (fun _ _ _ h => h) (Or.inl ⟨by rfl, ?yl4⟩) (by assumption) ?rl4
  case yl4 => intro w hSw; (try dsimp only at hSw); go_simp; try with_reducible rfl
  try simp only [Act.put, List.setIfInBounds_toArray, List.set_cons_zero, List.set_cons_succ]
  refine wpAnyH_ready (rs := [5]) (by kernel_rfl) (by simp) ?_
  refine AllReadyH.cons (o := ⟨_, _, _, _, _, _⟩) rfl (fun KK hK => ?_) AllReadyH.nil
  go_simp
  refine (shared_any now lg xs _ _ _ _ n _ (hb.below BU) (hx.below BU) hl h).mono ?_
  rintro r w3 ⟨rfl, hB3⟩
  have kk3 : w3.cell? ⟨w.heap.size, 0, none⟩ = some (.int .i64 now) ∧ w3.cell? ⟨w.heap.size, 1, none⟩ = some (.slice rb lg.length kb) := ⟨celB hB3 kk2.1, celB hB3 kk2.2⟩
  have BV := stGr BU hB3
  clear hB3
  go_wp2_with fail
  refine hK.out _ _ kk3 (fun hH5 => ?_)
  clear hK KK hH
  try simp only [Act.put, List.setIfInBounds_toArray, List.set_cons_zero, List.set_cons_succ]
  refine wpAnyH_take (i := 6) (oi := ⟨_, _, _, _, _, _⟩) (v := ?vl6) rfl (by kernel_rfl) (by kernel_rfl) (by kernel_rfl) (fun _ _ _ h => h) (Or.inl ⟨by rfl, ?yl6⟩) (by assumption) ?rl6
  case yl6 => intro w hSw; (try dsimp only at hSw); go_simp; try with_reducible rfl
  try simp only [Act.put, List.setIfInBounds_toArray, List.set_cons_zero, List.set_cons_succ]
  refine wpAnyH_take (i := 7) (oi := ⟨_, _, _, _, _, _⟩) (v := ?vl7) rfl (by kernel_rfl) (by kernel_rfl) (by kernel_rfl) (fun _ _ _ h => h) (Or.inl ⟨by rfl, ?yl7⟩) (by assumption) ?rl7
  case yl7 => intro w hSw; (try dsimp only at hSw); go_simp; try with_reducible rfl
  try simp only [Act.put, List.setIfInBounds_toArray, List.set_cons_zero, List.set_cons_succ]
  refine wpAnyH_done (by kernel_rfl) (NoPanic.normal ?_) _
  clear hu2
  have HW : Hid (Value.int .i64 (IntKind.i64.wrap ((lg.length : Int) - (n : Int))) = .int .i64 ((lg.length : Int) - (n : Int))) := by show _ = _; rw [show IntKind.i64.wrap ((lg.length : Int) - (n : Int)) = (lg.length : Int) - (n : Int) by rw [IntKind.wrap_i64]; omega]
  go_wp2
  go_ret
  exact ⟨congrArg Ending.returned HW.out, BV⟩

set_option maxRecDepth 100000 in
set_option maxHeartbeats 4000000 in
theorem implLagIn_any (s : Gr) (z : Int) (a0 a1 : Option Addr) (c0 c1 : Nat) (w : World) (hs : GrR w s a0 a1) (hb : GrB s) :
    Calls Try.prog 18 #[grV s a0 c0 a1 c1, .int .i64 z] w fun e w' => e = .returned (.tuple #[.int .i64 (lgN s z), .bool (lgB s z)]) ∧ Below w.heap.size w w' := by
  have mm := hb.reps
  have mmL := hb.len
  obtain ⟨u0, hu0⟩ : ∃ u, (w.alloc (.cells #[.int .i64 s.epoch, .int .i64 s.leader, .slice a0 s.steps.length c0, .int .i64 s.high, .slice a1 s.reps.length c1] 30)) = u := ⟨_, rfl⟩
  have kk : u0.cell? ⟨w.heap.size, 0, none⟩ = some (.int .i64 s.epoch) ∧ u0.cell? ⟨w.heap.size, 1, none⟩ = some (.int .i64 s.leader) ∧ u0.cell? ⟨w.heap.size, 2, none⟩ = some (.slice a0 s.steps.length c0) ∧ u0.cell? ⟨w.heap.size, 3, none⟩ = some (.int .i64 s.high) ∧ u0.cell? ⟨w.heap.size, 4, none⟩ = some (.slice a1 s.reps.length c1) := by rw [← hu0]; simp [go_sem]
  have bB : Below w.heap.size w u0 := by rw [← hu0]; exact alGr _ _
  obtain ⟨q0, q1, q2, q3, q4⟩ := kk
  cases hg : goodGr s with
  | false =>
    have HE : Hid (lgN s z = 0 ∧ lgB s z = false) := lg_bad (by simp [lgB, hg])
    go_enter Try.func18, Try.ntmps18
    go_wp2_with fail
    refine (implGoodGr_c s _ _ _ _ _ (hs.below bB) hb.len _ hg).mono ?_
    rintro r w1 ⟨rfl, hB1⟩
    have BB := stGr bB hB1
    clear hB1 hu0
    go_wp2
    refine bodyPost_ret (v := .tuple #[.int .i64 0, .bool false]) (by simp [results, Try.results18, go_sem]) rfl ⟨by rw [HE.out.1, HE.out.2], BB⟩
  | true =>
    cases ht : thB s.reps.length z with
    | false =>
      have HE : Hid (lgN s z = 0 ∧ lgB s z = false) := lg_bad (by rw [lgB, ht, Bool.and_false])
      have ht' : inB z 0 ((s.reps.length : Int) - 1) = false := by rw [← ht, Bool.eq_iff_iff, inB_t, thB_t]; omega
      go_enter Try.func18, Try.ntmps18
      go_wp2_with fail
      refine (implGoodGr_c s _ _ _ _ _ (hs.below bB) hb.len _ hg).mono ?_
      rintro r w1 ⟨rfl, hB1⟩
      have BB := stGr bB hB1
      have p0 := celB hB1 q0
      have p1 := celB hB1 q1
      have p2 := celB hB1 q2
      have p3 := celB hB1 q3
      have p4 := celB hB1 q4
      clear hB1 q0 q1 q2 q3 q4 hu0
      go_wp2_with fail
      refine (within_c _ _ _ _ ht').mono ?_
      rintro e w' ⟨rfl, hw⟩
      rw [hw]
      clear hw w'
      go_wp2
      refine bodyPost_ret (v := .tuple #[.int .i64 0, .bool false]) (by simp [results, Try.results18, go_sem]) rfl ⟨by rw [HE.out.1, HE.out.2], BB⟩
    | true =>
      obtain ⟨g1, g2⟩ := thB_t.1 ht
      have ht' : inB z 0 ((s.reps.length : Int) - 1) = true := by rw [inB_t]; omega
      obtain ⟨k, rfl⟩ : ∃ k : Nat, z = k := ⟨z.toNat, by omega⟩
      have hkn : k < s.reps.length := by omega
      have hhd : headGr s = true := by simp only [goodGr, Bool.and_eq_true] at hg; exact hg.1
      obtain ⟨g3, g4⟩ := head_lead hhd
      obtain ⟨f, hf⟩ : ∃ f : Nat, s.leader = f := ⟨s.leader.toNat, by omega⟩
      have hfn : f < s.reps.length := by omega
      obtain ⟨lg, hlg⟩ : ∃ lg, (rpA s.reps f).log = lg := ⟨_, rfl⟩
      obtain ⟨p, hp⟩ : ∃ p, rpA s.reps k = p := ⟨_, rfl⟩
      obtain ⟨n, hn⟩ : ∃ n, sameN lg p.log = n := ⟨_, rfl⟩
      have HE : Hid (lgN s k = (lg.length : Int) - (n : Int) ∧ lgB s k = true) := by
        have hbb : lgB s k = true := by simp only [lgB, hg, ht, Bool.and_self]
        refine ⟨?_, hbb⟩
        rw [lgN, if_pos hbb, leadL_of hf hlg, Int.toNat_natCast, hp, sameN_comm, hn]
      have HF : Hid (s.leader = f) := hf
      have HL : Hid ((rpA s.reps f).log = lg) := hlg
      have HP : Hid (rpA s.reps k = p) := hp
      have HNN : Hid (sameN lg p.log = n) := hn
      have HN6 : Hid (s.reps.length ≤ 1000000) := by
        simp only [headGr, Bool.and_eq_true] at hhd
        have := inB_t.1 hhd.1
        show _ ≤ _
        omega
      clear hf hlg hp hn hhd g1 g2 g3 g4
      go_enter Try.func18, Try.ntmps18
      go_wp2_with fail
      refine (implGoodGr_c s _ _ _ _ _ (hs.below bB) hb.len _ hg).mono ?_
      rintro r w1 ⟨rfl, hB1⟩
      have BB := stGr bB hB1
      have p0 := celB hB1 q0
      have p1 := celB hB1 q1
      have p2 := celB hB1 q2
      have p3 := celB hB1 q3
      have p4 := celB hB1 q4
      clear hB1 q0 q1 q2 q3 q4 hu0
      go_wp2_with fail
      refine (within_c _ _ _ _ ht').mono ?_
      rintro e w' ⟨rfl, hw⟩
      rw [hw]
      clear hw w'
      go_wp2_with fail
      refine (replicaOf_any s f k lg p _ _ _ _ _ (hs.below BB) HF.out hfn hkn HN6.out HL.out HP.out).mono ?_
      rintro r w2 ⟨rb, kb, r0, k0, rfl, zb, mb, z0, m0, hB2⟩
      have BC := stGr (stGr BB hB2) (alGr w2 (.cells #[.int .i64 s.epoch, .slice rb lg.length kb, .slice r0 p.log.length k0, .int .i64 p.epoch, .int .i64 p.known] 58))
      have zb' := zb.below (stGr hB2 (alGr w2 (.cells #[.int .i64 s.epoch, .slice rb lg.length kb, .slice r0 p.log.length k0, .int .i64 p.epoch, .int .i64 p.known] 58)))
      have z0' := z0.below (stGr hB2 (alGr w2 (.cells #[.int .i64 s.epoch, .slice rb lg.length kb, .slice r0 p.log.length k0, .int .i64 p.epoch, .int .i64 p.known] 58)))
      clear hB2 zb z0
      go_wp2_with fail
      refine (lag_any s.epoch lg p.log _ _ _ _ n _ zb' z0' mb HNN.out).mono ?_
      rintro r w3 ⟨rfl, hB3⟩
      have BD := stGr BC hB3
      clear hB3 zb' z0'
      go_wp2
      refine bodyPost_ret (v := .tuple #[.int .i64 ((lg.length : Int) - (n : Int)), .bool true]) (by simp [results, Try.results18, go_sem]) rfl ⟨by rw [HE.out.1, HE.out.2], BD⟩

end Go.Proofs.Ytkhbgdnhkaeamaa
