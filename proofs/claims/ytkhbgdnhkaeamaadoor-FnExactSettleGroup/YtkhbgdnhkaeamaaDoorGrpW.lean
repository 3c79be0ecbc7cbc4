/-
  Group that is marked, whatever it holds. Made by mkweak.py.
-/
import Derived.Test.YtkhbgdnhkaeamaaDoorGrp
import Derived.Test.YtkhbgdnhkaeamaaDoorRplW
namespace Go.Proofs.YtkhbgdnhkaeamaaDoor
open Go.RowKit

/-- Its lists lie in rows that may be written, from B on and below H. -/
structure GrW (w : World) (B H : Nat) (s : Gr) (a0 a1 : Option Addr) : Prop where
  steps : RowI w B a0 s.steps.length
  stepsH : ∀ b, InI a0 s.steps.length b → b < H
  reps : RpW w B H a1 s.reps

theorem GrW.below {w w' : World} {B H : Nat} {s : Gr} {a0 a1 : Option Addr} (h : GrW w B H s a0 a1) (hb : Below w.heap.size w w') : GrW w' B H s a0 a1 :=
  ⟨h.steps.below hb, h.stepsH, h.reps.below hb⟩

set_option maxHeartbeats 4000000 in
theorem toGroup_wkk (s : Gr) (a0 a1 : Option Addr) (c0 c1 : Nat) (w : World) (hs : GrR w s a0 a1) (hl : GrB s) :
    Calls Tryd.prog 14 #[grV s a0 c0 a1 c1] w fun r w' => ∃ b0 b1, r = .returned (grV s b0 s.steps.length b1 s.reps.length) ∧ GrR w' s b0 b1 ∧ GrW w' w.heap.size w'.heap.size s b0 b1 ∧ RpsK w' b1 s.reps ∧ Below w.heap.size w w' := by
  have hb3 : ∀ x y z, Below w.heap.size w (((w.alloc x).alloc y).alloc z) := fun _ _ _ => (((Below.refl _ _).alloc (Nat.le_refl _) _).alloc (by simp) _).alloc (by simp; omega) _
  go_enter Tryd.func14, Tryd.ntmps14
  go_wp2_with fail
  refine (toIntS_any _ _ _ _ (hs.steps.below (hb3 _ _ _)) hl.steps).mono ?_
  rintro r w1 ⟨s2, rfl, H2, R2, hB⟩
  have HB : Below w.heap.size w w1 := (hb3 _ _ _).trans (hB.mono (hb3 _ _ _).size)
  have p0 : w1.cell? ⟨w.heap.size, 0, none⟩ = some (.int .i64 s.epoch) := celB hB (by simp [go_sem])
  have p1 : w1.cell? ⟨w.heap.size, 1, none⟩ = some (.int .i64 s.leader) := celB hB (by simp [go_sem])
  have p2 : w1.cell? ⟨w.heap.size, 2, none⟩ = some (.slice a0 s.steps.length c0) := celB hB (by simp [go_sem])
  have p3 : w1.cell? ⟨w.heap.size, 3, none⟩ = some (.int .i64 s.high) := celB hB (by simp [go_sem])
  have p4 : w1.cell? ⟨w.heap.size, 4, none⟩ = some (.slice a1 s.reps.length c1) := celB hB (by simp [go_sem])
  have o0 : w1.cell? ⟨w.heap.size + 1 + 1, 0, none⟩ = some (.int .i64 s.epoch) := celB hB (by simp [go_sem])
  have o1 : w1.cell? ⟨w.heap.size + 1 + 1, 1, none⟩ = some (.int .i64 s.leader) := celB hB (by simp [go_sem])
  have o2 : w1.cell? ⟨w.heap.size + 1 + 1, 2, none⟩ = some (.slice none 0 0) := celB hB (by simp [go_sem])
  have o3 : w1.cell? ⟨w.heap.size + 1 + 1, 3, none⟩ = some (.int .i64 0) := celB hB (by simp [go_sem])
  have o4 : w1.cell? ⟨w.heap.size + 1 + 1, 4, none⟩ = some (.slice none 0 0) := celB hB (by simp [go_sem])
  have t0 : w1.cell? ⟨w.heap.size + 1, 0, none⟩ = some (.int .i64 0) := celB hB (by simp [go_sem])
  have t1 : w1.cell? ⟨w.heap.size + 1, 1, none⟩ = some (.int .i64 0) := celB hB (by simp [go_sem])
  have t2 : w1.cell? ⟨w.heap.size + 1, 2, none⟩ = some (.slice none 0 0) := celB hB (by simp [go_sem])
  have t3 : w1.cell? ⟨w.heap.size + 1, 3, none⟩ = some (.int .i64 0) := celB hB (by simp [go_sem])
  have t4 : w1.cell? ⟨w.heap.size + 1, 4, none⟩ = some (.slice none 0 0) := celB hB (by simp [go_sem])
  have x0 : ∀ o, w1.frozen? ⟨w.heap.size, o, none⟩ = false := fun o => frzB hB (by simp; omega) (by simp [go_sem])
  have x1 : ∀ o, w1.frozen? ⟨w.heap.size + 1, o, none⟩ = false := fun o => frzB hB (by simp) (by simp [go_sem])
  have x2 : ∀ o, w1.frozen? ⟨w.heap.size + 1 + 1, o, none⟩ = false := fun o => frzB hB (by simp) (by simp [go_sem])
  have hz1 := hB.size
  simp only [World.size_alloc] at hz1 R2
  clear hB
  go_wp2_with fail
  obtain ⟨u1, hu⟩ : ∃ u, ((w1.setCell ⟨w.heap.size + 1 + 1, 2, none⟩ (.slice s2 s.steps.length s.steps.length)).setCell ⟨w.heap.size + 1 + 1, 3, none⟩ (.int .i64 s.high)) = u := ⟨_, rfl⟩
  rw [hu]
  have HS : Below w.heap.size w u1 := by rw [← hu]; exact (HB.setCell (by first | (simp; done) | (simp; omega)) _).setCell (by first | (simp; done) | (simp; omega)) _
  replace p0 : u1.cell? ⟨w.heap.size, 0, none⟩ = some (.int .i64 s.epoch) := by rw [← hu]; simp [go_sem, p0]
  replace p1 : u1.cell? ⟨w.heap.size, 1, none⟩ = some (.int .i64 s.leader) := by rw [← hu]; simp [go_sem, p1]
  replace p2 : u1.cell? ⟨w.heap.size, 2, none⟩ = some (.slice a0 s.steps.length c0) := by rw [← hu]; simp [go_sem, p2]
  replace p3 : u1.cell? ⟨w.heap.size, 3, none⟩ = some (.int .i64 s.high) := by rw [← hu]; simp [go_sem, p3]
  replace p4 : u1.cell? ⟨w.heap.size, 4, none⟩ = some (.slice a1 s.reps.length c1) := by rw [← hu]; simp [go_sem, p4]
  replace o0 : u1.cell? ⟨w.heap.size + 1 + 1, 0, none⟩ = some (.int .i64 s.epoch) := by rw [← hu]; simp [go_sem, o0]
  replace o1 : u1.cell? ⟨w.heap.size + 1 + 1, 1, none⟩ = some (.int .i64 s.leader) := by rw [← hu]; simp [go_sem, o1]
  replace o2 : u1.cell? ⟨w.heap.size + 1 + 1, 2, none⟩ = some (.slice s2 s.steps.length s.steps.length) := by rw [← hu]; simp [go_sem, o2]
  replace o3 : u1.cell? ⟨w.heap.size + 1 + 1, 3, none⟩ = some (.int .i64 s.high) := by rw [← hu]; simp [go_sem, o3]
  replace o4 : u1.cell? ⟨w.heap.size + 1 + 1, 4, none⟩ = some (.slice none 0 0) := by rw [← hu]; simp [go_sem, o4]
  replace t0 : u1.cell? ⟨w.heap.size + 1, 0, none⟩ = some (.int .i64 0) := by rw [← hu]; simp [go_sem, t0]
  replace t1 : u1.cell? ⟨w.heap.size + 1, 1, none⟩ = some (.int .i64 0) := by rw [← hu]; simp [go_sem, t1]
  replace t2 : u1.cell? ⟨w.heap.size + 1, 2, none⟩ = some (.slice none 0 0) := by rw [← hu]; simp [go_sem, t2]
  replace t3 : u1.cell? ⟨w.heap.size + 1, 3, none⟩ = some (.int .i64 0) := by rw [← hu]; simp [go_sem, t3]
  replace t4 : u1.cell? ⟨w.heap.size + 1, 4, none⟩ = some (.slice none 0 0) := by rw [← hu]; simp [go_sem, t4]
  replace x0 : ∀ o, u1.frozen? ⟨w.heap.size, o, none⟩ = false := fun o => by rw [← hu]; simp [go_sem, x0]
  replace x1 : ∀ o, u1.frozen? ⟨w.heap.size + 1, o, none⟩ = false := fun o => by rw [← hu]; simp [go_sem, x1]
  replace x2 : ∀ o, u1.frozen? ⟨w.heap.size + 1 + 1, o, none⟩ = false := fun o => by rw [← hu]; simp [go_sem, x2]
  replace hz1 : w.heap.size + 1 + 1 + 1 ≤ u1.heap.size := by rw [← hu]; simpa using hz1
  have hzu : w1.heap.size ≤ u1.heap.size := by rw [← hu]; simp
  have H2' : Ints u1 s2 s.steps := by rw [← hu]; exact ((H2.setR R2 (by omega) _ _).setR (R2.setR (by omega) _ _) (by omega) _ _)
  have R2' : RowI u1 (w.heap.size + 1 + 1 + 1) s2 s.steps.length := by rw [← hu]; exact ((R2.setR (by omega) _ _).setR (by omega) _ _)
  clear hu H2 R2 HB
  refine (toReplicaS_wk _ _ _ _ (hs.reps.below HS) hl.reps hl.repsI).mono ?_
  rintro r w2 ⟨s4, rfl, -, R4, V4, hB⟩
  have H2 := H2'.below hB
  have R2 := R2'.below hB
  replace p0 := celB hB p0
  replace o0 := celB hB o0
  replace t0 := celB hB t0
  replace p1 := celB hB p1
  replace o1 := celB hB o1
  replace t1 := celB hB t1
  replace p2 := celB hB p2
  replace o2 := celB hB o2
  replace t2 := celB hB t2
  replace p3 := celB hB p3
  replace o3 := celB hB o3
  replace t3 := celB hB t3
  replace p4 := celB hB p4
  replace o4 := celB hB o4
  replace t4 := celB hB t4
  replace x0 := fun o => frzB (o := o) hB (by omega) (x0 o)
  replace x1 := fun o => frzB (o := o) hB (by omega) (x1 o)
  replace x2 := fun o => frzB (o := o) hB (by omega) (x2 o)
  replace R4 := R4.mono (B' := w.heap.size + 1 + 1 + 1) (by omega)
  replace V4 := V4.low (B' := w.heap.size + 1 + 1 + 1) (by omega)
  obtain ⟨h4, eh4⟩ : ∃ h, w2.heap.size = h := ⟨_, rfl⟩
  rw [eh4] at V4
  have hh4 : h4 ≤ w2.heap.size := by omega
  clear eh4
  have HB : Below w.heap.size w w2 := HS.trans (hB.mono HS.size)
  have hz2 : w.heap.size + 1 + 1 + 1 ≤ w2.heap.size := by have := hB.size; omega
  clear hB HS hz1 hzu H2' R2'
  go_wp2
  refine bodyPost_ret (v := grV s s2 s.steps.length s4 s.reps.length) (by simp [results, Tryd.results14, go_sem, t0, t1, t2, t3, t4]) rfl ⟨_, _, rfl, ⟨?_, ?_⟩, ⟨?_, ?_, ?_⟩, ?_, ?_⟩
  · exact ((((((H2.setR R2 (by omega) _ _).setR (R2.setR (by omega) _ _) (by omega) _ _).setR ((R2.setR (by omega) _ _).setR (by omega) _ _) (by omega) _ _).setR (((R2.setR (by omega) _ _).setR (by omega) _ _).setR (by omega) _ _) (by omega) _ _).setR ((((R2.setR (by omega) _ _).setR (by omega) _ _).setR (by omega) _ _).setR (by omega) _ _) (by omega) _ _).setR (((((R2.setR (by omega) _ _).setR (by omega) _ _).setR (by omega) _ _).setR (by omega) _ _).setR (by omega) _ _) (by omega) _ _)
  · exact ((((((R4.setR (by omega) _ _).setR (by omega) _ _).setR (by omega) _ _).setR (by omega) _ _).setR (by omega) _ _).setR (by omega) _ _).here
  · exact ((((((R2.setR (by omega) _ _).setR (by omega) _ _).setR (by omega) _ _).setR (by omega) _ _).setR (by omega) _ _).setR (by omega) _ _).mono (by omega)
  · exact fun b hb => (((((((R2.setR (by omega) _ _).setR (by omega) _ _).setR (by omega) _ _).setR (by omega) _ _).setR (by omega) _ _).setR (by omega) _ _).lt hb).2
  · exact (((((((V4.setR (by omega) _ _).setR (by omega) _ _).setR (by omega) _ _).setR (by omega) _ _).setR (by omega) _ _).setR (by omega) _ _).low (by omega)).high (by simpa using hh4)
  · exact ((((((R4.setR (by omega) _ _).setR (by omega) _ _).setR (by omega) _ _).setR (by omega) _ _).setR (by omega) _ _).setR (by omega) _ _).hereK
  · exact ((((((HB.setCell (by first | (simp; done) | (simp; omega)) _).setCell (by first | (simp; done) | (simp; omega)) _).setCell (by first | (simp; done) | (simp; omega)) _).setCell (by first | (simp; done) | (simp; omega)) _).setCell (by first | (simp; done) | (simp; omega)) _).setCell (by first | (simp; done) | (simp; omega)) _)

theorem toGroup_wk (s : Gr) (a0 a1 : Option Addr) (c0 c1 : Nat) (w : World) (hs : GrR w s a0 a1) (hl : GrB s) :
    Calls Tryd.prog 14 #[grV s a0 c0 a1 c1] w fun r w' => ∃ b0 b1, r = .returned (grV s b0 s.steps.length b1 s.reps.length) ∧ GrR w' s b0 b1 ∧ GrW w' w.heap.size w'.heap.size s b0 b1 ∧ Below w.heap.size w w' :=
  (toGroup_wkk s a0 a1 c0 c1 w hs hl).mono fun _ _ ⟨b0, b1, h1, h2, h3, _, h4⟩ => ⟨b0, b1, h1, h2, h3, h4⟩

set_option maxRecDepth 100000 in
set_option maxHeartbeats 4000000 in
theorem markGroup_wk (s : Gr) (B H k : Nat) (a0 a1 : Option Addr) (c0 c1 : Nat) (w : World) (h : GrW w B H s a0 a1) (hl : GrB s) (hBw : B ≤ w.heap.size) (hH : H ≤ w.heap.size) (hk : k ≤ 1000000) :
    Calls Tryd.prog 10 #[grV s a0 c0 a1 c1, .int .i64 (k : Int)] w fun r w' => ∃ k' : Nat, r = .returned (.int .i64 (k' : Int)) ∧ Wk w w' B H := by
  have l0 := hl.steps
  have l1 := hl.reps
  obtain ⟨u0, hu0⟩ : ∃ u0, (w.alloc (.cells #[.int .i64 s.epoch, .int .i64 s.leader, .slice a0 s.steps.length c0, .int .i64 s.high, .slice a1 s.reps.length c1] 25)) = u0 := ⟨_, rfl⟩
  have p0 : u0.cell? ⟨w.heap.size, 0, none⟩ = some (.int .i64 s.epoch) := by rw [← hu0]; simp [go_sem]
  have p1 : u0.cell? ⟨w.heap.size, 1, none⟩ = some (.int .i64 s.leader) := by rw [← hu0]; simp [go_sem]
  have p2 : u0.cell? ⟨w.heap.size, 2, none⟩ = some (.slice a0 s.steps.length c0) := by rw [← hu0]; simp [go_sem]
  have p3 : u0.cell? ⟨w.heap.size, 3, none⟩ = some (.int .i64 s.high) := by rw [← hu0]; simp [go_sem]
  have p4 : u0.cell? ⟨w.heap.size, 4, none⟩ = some (.slice a1 s.reps.length c1) := by rw [← hu0]; simp [go_sem]
  have bB : Below w.heap.size w u0 := by rw [← hu0]; exact alGr _ _
  have h0 := h.below bB
  have HW : Hid (Wk u0 u0 B H) := Wk.refl _ _ _
  have hz0 : w.heap.size < u0.heap.size := by rw [← hu0]; simp
  clear h
  have g1 := h0.reps
  go_enter Tryd.func10, Tryd.ntmps10
  go_wp2_with fail
  clear hu0
  have rw0 := h0.steps.kps HW.out.kps
  refine (markIntS_wk _ _ s.steps.length B k _ rw0 (by omega)).mono ?_
  rintro r w1 ⟨rfl, hB, hK, hO⟩
  have X : Wk u0 w1 B H := Wk.of_mark hB hK hO h0.stepsH
  have Y : Typ [3] u0 w1 := Typ.of_row hO (rw0.typ (by simp))
  replace p3 := X.cell (.inr hH) p3
  replace p4 := X.cell (.inr hH) p4
  replace g1 := g1.typ X.kps Y (by simp)
  replace HW : Hid (Wk u0 w1 B H) := HW.out.trans X
  clear hB hK hO X Y rw0
  obtain ⟨K0, hK0⟩ : ∃ K, k + s.steps.length = K := ⟨_, rfl⟩
  rw [hK0]
  go_wp2_with fail
  refine (markReplicaS_wk _ _ B H K0 s.reps _ (g1) hl.repsI (by omega)).mono ?_
  rintro r w2 ⟨K1, rfl, hK1, X, Y⟩
  replace HW : Hid (Wk u0 w2 B H) := HW.out.trans X
  clear X Y g1
  have HF : Hid (Wk w w2 B H) := ⟨(bB.mono hBw).trans HW.out.bel, fun b h1 h2 => (HW.out.out b h1 (by have := bB.size; omega)).trans (bB.block b h2), (Kps.below bB).trans HW.out.kps⟩
  clear HW
  go_wp2
  go_ret
  exact ⟨K1, rfl, HF.out⟩

end Go.Proofs.YtkhbgdnhkaeamaaDoor
