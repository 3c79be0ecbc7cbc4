/-
  Group as a call reads it, and the contracts of the laws' helpers szGroup, toGroup, eqGroup. Made by mktop.py.
-/
import Derived.Test.YtkhbgdnhkaeamaaDoorRpl
namespace Go.Proofs.YtkhbgdnhkaeamaaDoor
open Go.RowKit

structure Gr where
  epoch : Int
  leader : Int
  steps : List Int
  high : Int
  reps : List Rp

abbrev grV (s : Gr) (a0 : Option Addr) (c0 : Nat) (a1 : Option Addr) (c1 : Nat) : Value :=
  .agg #[.int .i64 s.epoch, .int .i64 s.leader, .slice a0 s.steps.length c0, .int .i64 s.high, .slice a1 s.reps.length c1]

/-- Its lists read so. -/
structure GrR (w : World) (s : Gr) (a0 a1 : Option Addr) : Prop where
  steps : Ints w a0 s.steps
  reps : Rps w a1 s.reps

theorem GrR.below {w w' : World} {s : Gr} {a0 a1 : Option Addr} (h : GrR w s a0 a1) (hb : Below w.heap.size w w') : GrR w' s a0 a1 :=
  ⟨h.steps.below hb, h.reps.below hb⟩

structure GrL (s : Gr) : Prop where
  steps : s.steps.length ≤ maxLen
  reps : s.reps.length ≤ maxLen

structure GrB (s : Gr) : Prop where
  steps : s.steps.length ≤ 1048576
  reps : s.reps.length ≤ 1048576
  repsI : ∀ c, c ∈ s.reps → c.log.length ≤ 1048576

theorem GrB.len {s : Gr} (h : GrB s) : GrL s := by
  have h0 := h.steps
  have h1 := h.reps
  exact ⟨by unfold maxLen; omega, by unfold maxLen; omega⟩

def szGr (s : Gr) : Int := if szN s.steps.length 1048576 < 0 then -1 else szRps s.reps (szN s.steps.length 1048576)

theorem szGr_range (s : Gr) : -1 ≤ szGr s ∧ szGr s ≤ 1048576 := by
  unfold szGr
  have e0 := szN_range s.steps.length (left := 1048576) (by omega)
  split
  · omega
  have e1 := szRps_range s.reps (left := (szN s.steps.length 1048576)) (by omega)
  omega

theorem szGr_bound {s : Gr} (h : 0 ≤ szGr s) : GrB s := by
  unfold szGr at h
  have e0 := szN_range s.steps.length (left := 1048576) (by omega)
  split at h
  · omega
  have b0 := szN_bound (n := s.steps.length) (left := 1048576) (by omega)
  have e1 := szRps_range s.reps (left := (szN s.steps.length 1048576)) (by omega)
  obtain ⟨b1, g1⟩ := szRps_bound (l := s.reps) (left := (szN s.steps.length 1048576)) (by omega) (by omega)
  exact ⟨by omega, by omega, g1⟩

theorem alGr (u : World) (o : Obj) : Below u.heap.size u (u.alloc o) := (Below.refl _ _).alloc (Nat.le_refl _) o

theorem stGr {W a b : World} (h : Below W.heap.size W a) (k : Below a.heap.size a b) : Below W.heap.size W b := h.trans (k.mono h.size)

set_option maxHeartbeats 2000000 in
theorem szGroup_any (s : Gr) (a0 a1 : Option Addr) (c0 c1 : Nat) (w : World) (hs : GrR w s a0 a1) (hl : GrL s) :
    Calls Tryd.prog 12 #[grV s a0 c0 a1 c1, .int .i64 1048576] w fun r w' => r = .returned (.int .i64 (szGr s)) ∧ Below w.heap.size w w' := by
  have hs1 : ∀ o, GrR (w.alloc o) s a0 a1 := fun o => hs.below (alGr w o)
  have e0 := szN_range s.steps.length (left := 1048576) (by omega)
  by_cases n0 : szN s.steps.length 1048576 < 0
  · have HE : Hid (szGr s = -1) := by show _ = _; unfold szGr; rw [if_pos n0]
    go_enter Tryd.func12, Tryd.ntmps12
    go_wp2_with fail
    refine (szIntN_any _ _ _ _ _ hl.steps (by omega) (by omega)).mono ?_
    rintro e w' ⟨rfl, rfl⟩
    go_wp2
    go_ret
    exact ⟨ret_int (by rw [HE.out]), alGr _ _⟩
  have HN0 : Hid (¬ szN s.steps.length 1048576 < 0) := n0
  have e1 := szRps_range s.reps (left := (szN s.steps.length 1048576)) (by omega)
  have HE : Hid (szGr s = szRps s.reps (szN s.steps.length 1048576)) := by show _ = _; unfold szGr; rw [if_neg HN0.out]
  go_enter Tryd.func12, Tryd.ntmps12
  go_wp2_with fail
  refine (szIntN_any _ _ _ _ _ hl.steps (by omega) (by omega)).mono ?_
  rintro e w' ⟨rfl, rfl⟩
  go_wp2_with fail
  refine (szReplicaS_any _ _ _ _ _ (hs1 _).reps hl.reps (by omega) (by omega)).mono ?_
  rintro r w2 ⟨rfl, hB⟩
  have hs2 := (hs1 _).below hB
  have BB := stGr (alGr _ _) hB
  clear hB
  by_cases n1 : szRps s.reps (szN s.steps.length 1048576) < 0
  · go_wp2
    go_ret
    exact ⟨ret_int (by rw [HE.out]; omega), BB⟩
  · go_wp2
    go_ret
    exact ⟨ret_int HE.out.symm, BB⟩

set_option maxHeartbeats 4000000 in
theorem toGroup_k (s : Gr) (a0 a1 : Option Addr) (c0 c1 : Nat) (w : World) (hs : GrR w s a0 a1) (hl : GrB s) :
    Calls Tryd.prog 14 #[grV s a0 c0 a1 c1] w fun r w' => ∃ b0 b1, r = .returned (grV s b0 s.steps.length b1 s.reps.length) ∧ GrR w' s b0 b1 ∧ RpsK w' b1 s.reps ∧ Below w.heap.size w w' := by
  have hb3 : ∀ x y z, Below w.heap.size w (((w.alloc x).alloc y).alloc z) := fun _ _ _ => (((Below.refl _ _).alloc (Nat.le_refl _) _).alloc (by simp) _).alloc (by simp; omega) _
  go_enter Tryd.func14, Tryd.ntmps14
  go_wp2_with fail
  refine (toIntS_any _ _ _ _ (hs.steps.below (hb3 _ _ _)) hl.steps).mono ?_
  rintro r w1 ⟨s2, rfl, H2, R2, hB⟩
  have HB : Below w.heap.size w w1 := (hb3 _ _ _).trans (hB.mono (hb3 _ _ _).size)
  have p0 : w1.cell? ⟨w.heap.size, 0, none⟩ = some (.int .i64 s.epoch) := celB hB (by simp [go_sem])
  have p1 : w1.cell? ⟨w.heap.size, 1, none⟩ = some (.int .i64 s.leader) := celB hB (by simp [go_sem])
  have p2 : w1.cell? ⟨w.heap.size, 2, none⟩ = some (.slice a0 s.steps.length c0) := celB hB (by simp [go_sem])
  have p3 : w1.cell? ⟨w.heap.size, 3, none⟩ = some (.int .i64 s.high) := celB hB (by simp [go_sem])
  have p4 : w1.cell? ⟨w.heap.size, 4, none⟩ = some (.slice a1 s.reps.length c1) := celB hB (by simp [go_sem])
  have o0 : w1.cell? ⟨w.heap.size + 1 + 1, 0, none⟩ = some (.int .i64 s.epoch) := celB hB (by simp [go_sem])
  have o1 : w1.cell? ⟨w.heap.size + 1 + 1, 1, none⟩ = some (.int .i64 s.leader) := celB hB (by simp [go_sem])
  have o2 : w1.cell? ⟨w.heap.size + 1 + 1, 2, none⟩ = some (.slice none 0 0) := celB hB (by simp [go_sem])
  have o3 : w1.cell? ⟨w.heap.size + 1 + 1, 3, none⟩ = some (.int .i64 0) := celB hB (by simp [go_sem])
  have o4 : w1.cell? ⟨w.heap.size + 1 + 1, 4, none⟩ = some (.slice none 0 0) := celB hB (by simp [go_sem])
  have t0 : w1.cell? ⟨w.heap.size + 1, 0, none⟩ = some (.int .i64 0) := celB hB (by simp [go_sem])
  have t1 : w1.cell? ⟨w.heap.size + 1, 1, none⟩ = some (.int .i64 0) := celB hB (by simp [go_sem])
  have t2 : w1.cell? ⟨w.heap.size + 1, 2, none⟩ = some (.slice none 0 0) := celB hB (by simp [go_sem])
  have t3 : w1.cell? ⟨w.heap.size + 1, 3, none⟩ = some (.int .i64 0) := celB hB (by simp [go_sem])
  have t4 : w1.cell? ⟨w.heap.size + 1, 4, none⟩ = some (.slice none 0 0) := celB hB (by simp [go_sem])
  have x0 : ∀ o, w1.frozen? ⟨w.heap.size, o, none⟩ = false := fun o => frzB hB (by simp; omega) (by simp [go_sem])
  have x1 : ∀ o, w1.frozen? ⟨w.heap.size + 1, o, none⟩ = false := fun o => frzB hB (by simp) (by simp [go_sem])
  have x2 : ∀ o, w1.frozen? ⟨w.heap.size + 1 + 1, o, none⟩ = false := fun o => frzB hB (by simp) (by simp [go_sem])
  have hz1 := hB.size
  simp only [World.size_alloc] at hz1 R2
  clear hB
  go_wp2_with fail
  obtain ⟨u1, hu⟩ : ∃ u, ((w1.setCell ⟨w.heap.size + 1 + 1, 2, none⟩ (.slice s2 s.steps.length s.steps.length)).setCell ⟨w.heap.size + 1 + 1, 3, none⟩ (.int .i64 s.high)) = u := ⟨_, rfl⟩
  rw [hu]
  have HS : Below w.heap.size w u1 := by rw [← hu]; exact (HB.setCell (by first | (simp; done) | (simp; omega)) _).setCell (by first | (simp; done) | (simp; omega)) _
  replace p0 : u1.cell? ⟨w.heap.size, 0, none⟩ = some (.int .i64 s.epoch) := by rw [← hu]; simp [go_sem, p0]
  replace p1 : u1.cell? ⟨w.heap.size, 1, none⟩ = some (.int .i64 s.leader) := by rw [← hu]; simp [go_sem, p1]
  replace p2 : u1.cell? ⟨w.heap.size, 2, none⟩ = some (.slice a0 s.steps.length c0) := by rw [← hu]; simp [go_sem, p2]
  replace p3 : u1.cell? ⟨w.heap.size, 3, none⟩ = some (.int .i64 s.high) := by rw [← hu]; simp [go_sem, p3]
  replace p4 : u1.cell? ⟨w.heap.size, 4, none⟩ = some (.slice a1 s.reps.length c1) := by rw [← hu]; simp [go_sem, p4]
  replace o0 : u1.cell? ⟨w.heap.size + 1 + 1, 0, none⟩ = some (.int .i64 s.epoch) := by rw [← hu]; simp [go_sem, o0]
  replace o1 : u1.cell? ⟨w.heap.size + 1 + 1, 1, none⟩ = some (.int .i64 s.leader) := by rw [← hu]; simp [go_sem, o1]
  replace o2 : u1.cell? ⟨w.heap.size + 1 + 1, 2, none⟩ = some (.slice s2 s.steps.length s.steps.length) := by rw [← hu]; simp [go_sem, o2]
  replace o3 : u1.cell? ⟨w.heap.size + 1 + 1, 3, none⟩ = some (.int .i64 s.high) := by rw [← hu]; simp [go_sem, o3]
  replace o4 : u1.cell? ⟨w.heap.size + 1 + 1, 4, none⟩ = some (.slice none 0 0) := by rw [← hu]; simp [go_sem, o4]
  replace t0 : u1.cell? ⟨w.heap.size + 1, 0, none⟩ = some (.int .i64 0) := by rw [← hu]; simp [go_sem, t0]
  replace t1 : u1.cell? ⟨w.heap.size + 1, 1, none⟩ = some (.int .i64 0) := by rw [← hu]; simp [go_sem, t1]
  replace t2 : u1.cell? ⟨w.heap.size + 1, 2, none⟩ = some (.slice none 0 0) := by rw [← hu]; simp [go_sem, t2]
  replace t3 : u1.cell? ⟨w.heap.size + 1, 3, none⟩ = some (.int .i64 0) := by rw [← hu]; simp [go_sem, t3]
  replace t4 : u1.cell? ⟨w.heap.size + 1, 4, none⟩ = some (.slice none 0 0) := by rw [← hu]; simp [go_sem, t4]
  replace x0 : ∀ o, u1.frozen? ⟨w.heap.size, o, none⟩ = false := fun o => by rw [← hu]; simp [go_sem, x0]
  replace x1 : ∀ o, u1.frozen? ⟨w.heap.size + 1, o, none⟩ = false := fun o => by rw [← hu]; simp [go_sem, x1]
  replace x2 : ∀ o, u1.frozen? ⟨w.heap.size + 1 + 1, o, none⟩ = false := fun o => by rw [← hu]; simp [go_sem, x2]
  replace hz1 : w.heap.size + 1 + 1 + 1 ≤ u1.heap.size := by rw [← hu]; simpa using hz1
  have H2' : Ints u1 s2 s.steps := by rw [← hu]; exact (H2.setR R2 (by omega) _ _).setR (R2.setR (by omega) _ _) (by omega) _ _
  have R2' : RowI u1 (w.heap.size + 1 + 1 + 1) s2 s.steps.length := by rw [← hu]; exact (R2.setR (by omega) _ _).setR (by omega) _ _
  clear hu H2 R2 HB
  refine (toReplicaS_any _ _ _ _ (hs.reps.below HS) hl.reps hl.repsI).mono ?_
  rintro r w2 ⟨s4, rfl, -, R4, hB⟩
  have H2 := H2'.below hB
  have R2 := R2'.below hB
  replace p0 := celB hB p0
  replace o0 := celB hB o0
  replace t0 := celB hB t0
  replace p1 := celB hB p1
  replace o1 := celB hB o1
  replace t1 := celB hB t1
  replace p2 := celB hB p2
  replace o2 := celB hB o2
  replace t2 := celB hB t2
  replace p3 := celB hB p3
  replace o3 := celB hB o3
  replace t3 := celB hB t3
  replace p4 := celB hB p4
  replace o4 := celB hB o4
  replace t4 := celB hB t4
  replace x0 := fun o => frzB (o := o) hB (by omega) (x0 o)
  replace x1 := fun o => frzB (o := o) hB (by omega) (x1 o)
  replace x2 := fun o => frzB (o := o) hB (by omega) (x2 o)
  replace R4 := R4.mono (B' := w.heap.size + 1 + 1 + 1) (by omega)
  have HB : Below w.heap.size w w2 := HS.trans (hB.mono HS.size)
  have hz2 : w.heap.size + 1 + 1 + 1 ≤ w2.heap.size := by have := hB.size; omega
  clear hB HS hz1 H2' R2'
  go_wp2
  refine bodyPost_ret (v := grV s s2 s.steps.length s4 s.reps.length) (by simp [results, Tryd.results14, go_sem, t0, t1, t2, t3, t4]) rfl ⟨_, _, rfl, ⟨?_, ?_⟩, ?_, ?_⟩
  · exact ((((((H2.setR R2 (by omega) _ _).setR (R2.setR (by omega) _ _) (by omega) _ _).setR ((R2.setR (by omega) _ _).setR (by omega) _ _) (by omega) _ _).setR (((R2.setR (by omega) _ _).setR (by omega) _ _).setR (by omega) _ _) (by omega) _ _).setR ((((R2.setR (by omega) _ _).setR (by omega) _ _).setR (by omega) _ _).setR (by omega) _ _) (by omega) _ _).setR (((((R2.setR (by omega) _ _).setR (by omega) _ _).setR (by omega) _ _).setR (by omega) _ _).setR (by omega) _ _) (by omega) _ _)
  · exact ((((((R4.setR (by omega) _ _).setR (by omega) _ _).setR (by omega) _ _).setR (by omega) _ _).setR (by omega) _ _).setR (by omega) _ _).here
  · exact ((((((R4.setR (by omega) _ _).setR (by omega) _ _).setR (by omega) _ _).setR (by omega) _ _).setR (by omega) _ _).setR (by omega) _ _).hereK
  · exact ((((((HB.setCell (by first | (simp; done) | (simp; omega)) _).setCell (by first | (simp; done) | (simp; omega)) _).setCell (by first | (simp; done) | (simp; omega)) _).setCell (by first | (simp; done) | (simp; omega)) _).setCell (by first | (simp; done) | (simp; omega)) _).setCell (by first | (simp; done) | (simp; omega)) _)

theorem toGroup_any (s : Gr) (a0 a1 : Option Addr) (c0 c1 : Nat) (w : World) (hs : GrR w s a0 a1) (hl : GrB s) :
    Calls Tryd.prog 14 #[grV s a0 c0 a1 c1] w fun r w' => ∃ b0 b1, r = .returned (grV s b0 s.steps.length b1 s.reps.length) ∧ GrR w' s b0 b1 ∧ Below w.heap.size w w' :=
  (toGroup_k s a0 a1 c0 c1 w hs hl).mono fun _ _ ⟨b0, b1, h1, h2, _, h3⟩ => ⟨b0, b1, h1, h2, h3⟩

set_option maxHeartbeats 2000000 in
theorem eqGroup_same (s : Gr) (a0 a1 b0 b1 : Option Addr) (c0 c1 d0 d1 : Nat) (w : World) (hs : GrR w s a0 a1) (ht : GrR w s b0 b1) (hl : GrL s) :
    Calls Tryd.prog 9 #[grV s a0 c0 a1 c1, grV s b0 d0 b1 d1] w fun r w' => r = .returned (.bool true) ∧ Below w.heap.size w w' := by
  have HB : ∀ x y, Below w.heap.size w ((w.alloc x).alloc y) := fun _ _ => ((Below.refl _ _).alloc (Nat.le_refl _) _).alloc (by simp) _
  go_enter Tryd.func9, Tryd.ntmps9
  go_wp2_with fail
  refine (eqIntS_same _ _ _ _ _ _ (hs.steps.below (HB _ _)) (ht.steps.below (HB _ _)) hl.steps).mono ?_
  rintro r w1 ⟨rfl, hB⟩
  have p3 : w1.cell? ⟨w.heap.size, 3, none⟩ = some (.int .i64 s.high) := celB hB (by simp [go_sem])
  have o3 : w1.cell? ⟨w.heap.size + 1, 3, none⟩ = some (.int .i64 s.high) := celB hB (by simp [go_sem])
  have p4 : w1.cell? ⟨w.heap.size, 4, none⟩ = some (.slice a1 s.reps.length c1) := celB hB (by simp [go_sem])
  have o4 : w1.cell? ⟨w.heap.size + 1, 4, none⟩ = some (.slice b1 s.reps.length d1) := celB hB (by simp [go_sem])
  have BB : Below w.heap.size w w1 := (HB _ _).trans (hB.mono (HB _ _).size)
  clear hB
  go_wp2_with fail
  refine (eqReplicaS_same _ _ _ _ _ _ (hs.reps.below BB) (ht.reps.below BB) hl.reps).mono ?_
  rintro r w2 ⟨rfl, hB⟩
  replace BB := stGr BB hB
  clear hB
  go_wp2
  go_ret
  exact ⟨rfl, BB⟩

theorem gr_keep {w w' : World} {b : Nat} {v0 v1 v2 v3 v4 : Value} (hb : Below w.heap.size w w') (h : w.cell? ⟨b, 0, none⟩ = some v0 ∧ w.cell? ⟨b, 1, none⟩ = some v1 ∧ w.cell? ⟨b, 2, none⟩ = some v2 ∧ w.cell? ⟨b, 3, none⟩ = some v3 ∧ w.cell? ⟨b, 4, none⟩ = some v4) : w'.cell? ⟨b, 0, none⟩ = some v0 ∧ w'.cell? ⟨b, 1, none⟩ = some v1 ∧ w'.cell? ⟨b, 2, none⟩ = some v2 ∧ w'.cell? ⟨b, 3, none⟩ = some v3 ∧ w'.cell? ⟨b, 4, none⟩ = some v4 := by
  obtain ⟨h0, h1, h2, h3, h4⟩ := h
  exact ⟨celB hb h0, celB hb h1, celB hb h2, celB hb h3, celB hb h4⟩

end Go.Proofs.YtkhbgdnhkaeamaaDoor
