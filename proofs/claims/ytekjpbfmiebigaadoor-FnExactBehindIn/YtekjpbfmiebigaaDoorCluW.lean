/-
  Cluster that is marked, whatever it holds. Made by mkweak.py.
-/
import Derived.Test.YtekjpbfmiebigaaDoorClu
import Derived.Test.YtekjpbfmiebigaaDoorNdeW
namespace Go.Proofs.YtekjpbfmiebigaaDoor
open Go.RowKit

/-- Its lists lie in rows that may be written, from B on and below H. -/
structure CuW (w : World) (B H : Nat) (s : Cu) (a0 a1 a2 : Option Addr) : Prop where
  tst : RowI w B a0 s.tst.length
  tstH : ∀ b, InI a0 s.tst.length b → b < H
  nodes : NdW w B H a1 s.nodes
  acked : RowRw w B a2 s.acked.length
  ackedH : ∀ b, InI a2 s.acked.length b → b < H

theorem CuW.below {w w' : World} {B H : Nat} {s : Cu} {a0 a1 a2 : Option Addr} (h : CuW w B H s a0 a1 a2) (hb : Below w.heap.size w w') : CuW w' B H s a0 a1 a2 :=
  ⟨h.tst.below hb, h.tstH, h.nodes.below hb, h.acked.below hb, h.ackedH⟩

set_option maxHeartbeats 4000000 in
theorem toCluster_wkk (s : Cu) (a0 a1 a2 : Option Addr) (c0 c1 c2 : Nat) (w : World) (hs : CuR w s a0 a1 a2) (hl : CuB s) :
    Calls Tryd.prog 12 #[cuV s a0 c0 a1 c1 a2 c2] w fun r w' => ∃ b0 b1 b2, r = .returned (cuV s b0 s.tst.length b1 s.nodes.length b2 s.acked.length) ∧ CuR w' s b0 b1 b2 ∧ CuW w' w.heap.size w'.heap.size s b0 b1 b2 ∧ NdsK w' b1 s.nodes ∧ Below w.heap.size w w' := by
  have hb3 : ∀ x y z, Below w.heap.size w (((w.alloc x).alloc y).alloc z) := fun _ _ _ => (((Below.refl _ _).alloc (Nat.le_refl _) _).alloc (by simp) _).alloc (by simp; omega) _
  go_enter Tryd.func12, Tryd.ntmps12
  go_wp2_with fail
  refine (toView_any ⟨s.tep, s.tld, s.tst⟩ a0 c0 _ (hs.tst.below (hb3 _ _ _)) hl.tst).mono ?_
  rintro r w1 ⟨s2, rfl, H2, R2, hB⟩
  have HB : Below w.heap.size w w1 := (hb3 _ _ _).trans (hB.mono (hb3 _ _ _).size)
  have p0 : w1.cell? ⟨w.heap.size, 0, none⟩ = some (.int .i64 s.tep) := celB hB (by simp [go_sem])
  have p1 : w1.cell? ⟨w.heap.size, 1, none⟩ = some (.int .i64 s.tld) := celB hB (by simp [go_sem])
  have p2 : w1.cell? ⟨w.heap.size, 2, none⟩ = some (.slice a0 s.tst.length c0) := celB hB (by simp [go_sem])
  have p3 : w1.cell? ⟨w.heap.size, 3, none⟩ = some (.slice a1 s.nodes.length c1) := celB hB (by simp [go_sem])
  have p4 : w1.cell? ⟨w.heap.size, 4, none⟩ = some (.slice a2 s.acked.length c2) := celB hB (by simp [go_sem])
  have o0 : w1.cell? ⟨w.heap.size + 1 + 1, 0, none⟩ = some (.int .i64 0) := celB hB (by simp [go_sem])
  have o1 : w1.cell? ⟨w.heap.size + 1 + 1, 1, none⟩ = some (.int .i64 0) := celB hB (by simp [go_sem])
  have o2 : w1.cell? ⟨w.heap.size + 1 + 1, 2, none⟩ = some (.slice none 0 0) := celB hB (by simp [go_sem])
  have o3 : w1.cell? ⟨w.heap.size + 1 + 1, 3, none⟩ = some (.slice none 0 0) := celB hB (by simp [go_sem])
  have o4 : w1.cell? ⟨w.heap.size + 1 + 1, 4, none⟩ = some (.slice none 0 0) := celB hB (by simp [go_sem])
  have t0 : w1.cell? ⟨w.heap.size + 1, 0, none⟩ = some (.int .i64 0) := celB hB (by simp [go_sem])
  have t1 : w1.cell? ⟨w.heap.size + 1, 1, none⟩ = some (.int .i64 0) := celB hB (by simp [go_sem])
  have t2 : w1.cell? ⟨w.heap.size + 1, 2, none⟩ = some (.slice none 0 0) := celB hB (by simp [go_sem])
  have t3 : w1.cell? ⟨w.heap.size + 1, 3, none⟩ = some (.slice none 0 0) := celB hB (by simp [go_sem])
  have t4 : w1.cell? ⟨w.heap.size + 1, 4, none⟩ = some (.slice none 0 0) := celB hB (by simp [go_sem])
  have x0 : ∀ o, w1.frozen? ⟨w.heap.size, o, none⟩ = false := fun o => frzB hB (by simp; omega) (by simp [go_sem])
  have x1 : ∀ o, w1.frozen? ⟨w.heap.size + 1, o, none⟩ = false := fun o => frzB hB (by simp) (by simp [go_sem])
  have x2 : ∀ o, w1.frozen? ⟨w.heap.size + 1 + 1, o, none⟩ = false := fun o => frzB hB (by simp) (by simp [go_sem])
  have hz1 := hB.size
  simp only [World.size_alloc] at hz1 R2
  clear hB
  go_wp2_with fail
  obtain ⟨u1, hu⟩ : ∃ u, (((w1.setCell ⟨w.heap.size + 1 + 1, 0, none⟩ (.int .i64 s.tep)).setCell ⟨w.heap.size + 1 + 1, 1, none⟩ (.int .i64 s.tld)).setCell ⟨w.heap.size + 1 + 1, 2, none⟩ (.slice s2 s.tst.length s.tst.length)) = u := ⟨_, rfl⟩
  rw [hu]
  have HS : Below w.heap.size w u1 := by rw [← hu]; exact ((HB.setCell (by first | (simp; done) | (simp; omega)) _).setCell (by first | (simp; done) | (simp; omega)) _).setCell (by first | (simp; done) | (simp; omega)) _
  replace p0 : u1.cell? ⟨w.heap.size, 0, none⟩ = some (.int .i64 s.tep) := by rw [← hu]; simp [go_sem, p0]
  replace p1 : u1.cell? ⟨w.heap.size, 1, none⟩ = some (.int .i64 s.tld) := by rw [← hu]; simp [go_sem, p1]
  replace p2 : u1.cell? ⟨w.heap.size, 2, none⟩ = some (.slice a0 s.tst.length c0) := by rw [← hu]; simp [go_sem, p2]
  replace p3 : u1.cell? ⟨w.heap.size, 3, none⟩ = some (.slice a1 s.nodes.length c1) := by rw [← hu]; simp [go_sem, p3]
  replace p4 : u1.cell? ⟨w.heap.size, 4, none⟩ = some (.slice a2 s.acked.length c2) := by rw [← hu]; simp [go_sem, p4]
  replace o0 : u1.cell? ⟨w.heap.size + 1 + 1, 0, none⟩ = some (.int .i64 s.tep) := by rw [← hu]; simp [go_sem, o0]
  replace o1 : u1.cell? ⟨w.heap.size + 1 + 1, 1, none⟩ = some (.int .i64 s.tld) := by rw [← hu]; simp [go_sem, o1]
  replace o2 : u1.cell? ⟨w.heap.size + 1 + 1, 2, none⟩ = some (.slice s2 s.tst.length s.tst.length) := by rw [← hu]; simp [go_sem, o2]
  replace o3 : u1.cell? ⟨w.heap.size + 1 + 1, 3, none⟩ = some (.slice none 0 0) := by rw [← hu]; simp [go_sem, o3]
  replace o4 : u1.cell? ⟨w.heap.size + 1 + 1, 4, none⟩ = some (.slice none 0 0) := by rw [← hu]; simp [go_sem, o4]
  replace t0 : u1.cell? ⟨w.heap.size + 1, 0, none⟩ = some (.int .i64 0) := by rw [← hu]; simp [go_sem, t0]
  replace t1 : u1.cell? ⟨w.heap.size + 1, 1, none⟩ = some (.int .i64 0) := by rw [← hu]; simp [go_sem, t1]
  replace t2 : u1.cell? ⟨w.heap.size + 1, 2, none⟩ = some (.slice none 0 0) := by rw [← hu]; simp [go_sem, t2]
  replace t3 : u1.cell? ⟨w.heap.size + 1, 3, none⟩ = some (.slice none 0 0) := by rw [← hu]; simp [go_sem, t3]
  replace t4 : u1.cell? ⟨w.heap.size + 1, 4, none⟩ = some (.slice none 0 0) := by rw [← hu]; simp [go_sem, t4]
  replace x0 : ∀ o, u1.frozen? ⟨w.heap.size, o, none⟩ = false := fun o => by rw [← hu]; simp [go_sem, x0]
  replace x1 : ∀ o, u1.frozen? ⟨w.heap.size + 1, o, none⟩ = false := fun o => by rw [← hu]; simp [go_sem, x1]
  replace x2 : ∀ o, u1.frozen? ⟨w.heap.size + 1 + 1, o, none⟩ = false := fun o => by rw [← hu]; simp [go_sem, x2]
  replace hz1 : w.heap.size + 1 + 1 + 1 ≤ u1.heap.size := by rw [← hu]; simpa using hz1
  have hzu : w1.heap.size ≤ u1.heap.size := by rw [← hu]; simp
  have H2' : Ints u1 s2 s.tst := by rw [← hu]; exact ((H2.setR R2 (by omega) _ _).setR (R2.setR (by omega) _ _) (by omega) _ _).setR ((R2.setR (by omega) _ _).setR (by omega) _ _) (by omega) _ _
  have R2' : RowI u1 (w.heap.size + 1 + 1 + 1) s2 s.tst.length := by rw [← hu]; exact ((R2.setR (by omega) _ _).setR (by omega) _ _).setR (by omega) _ _
  clear hu H2 R2 HB
  refine (toNodeS_wk _ _ _ _ (hs.nodes.below HS) hl.nodes hl.nodesI).mono ?_
  rintro r w2 ⟨s3, rfl, -, R3, V3, hB⟩
  have H2 := H2'.below hB
  have R2 := R2'.below hB
  replace p0 := celB hB p0
  replace o0 := celB hB o0
  replace t0 := celB hB t0
  replace p1 := celB hB p1
  replace o1 := celB hB o1
  replace t1 := celB hB t1
  replace p2 := celB hB p2
  replace o2 := celB hB o2
  replace t2 := celB hB t2
  replace p3 := celB hB p3
  replace o3 := celB hB o3
  replace t3 := celB hB t3
  replace p4 := celB hB p4
  replace o4 := celB hB o4
  replace t4 := celB hB t4
  replace x0 := fun o => frzB (o := o) hB (by omega) (x0 o)
  replace x1 := fun o => frzB (o := o) hB (by omega) (x1 o)
  replace x2 := fun o => frzB (o := o) hB (by omega) (x2 o)
  replace R3 := R3.mono (B' := w.heap.size + 1 + 1 + 1) (by omega)
  replace V3 := V3.low (B' := w.heap.size + 1 + 1 + 1) (by omega)
  obtain ⟨h3, eh3⟩ : ∃ h, w2.heap.size = h := ⟨_, rfl⟩
  rw [eh3] at V3
  have hh3 : h3 ≤ w2.heap.size := by omega
  clear eh3
  have HB : Below w.heap.size w w2 := HS.trans (hB.mono HS.size)
  have hz2 : w.heap.size + 1 + 1 + 1 ≤ w2.heap.size := by have := hB.size; omega
  clear hB HS hz1 hzu H2' R2'
  go_wp2_with fail
  obtain ⟨u2, hu⟩ : ∃ u, (w2.setCell ⟨w.heap.size + 1 + 1, 3, none⟩ (.slice s3 s.nodes.length s.nodes.length)) = u := ⟨_, rfl⟩
  rw [hu]
  have HS : Below w.heap.size w u2 := by rw [← hu]; exact HB.setCell (by first | (simp; done) | (simp; omega)) _
  replace p0 : u2.cell? ⟨w.heap.size, 0, none⟩ = some (.int .i64 s.tep) := by rw [← hu]; simp [go_sem, p0]
  replace p1 : u2.cell? ⟨w.heap.size, 1, none⟩ = some (.int .i64 s.tld) := by rw [← hu]; simp [go_sem, p1]
  replace p2 : u2.cell? ⟨w.heap.size, 2, none⟩ = some (.slice a0 s.tst.length c0) := by rw [← hu]; simp [go_sem, p2]
  replace p3 : u2.cell? ⟨w.heap.size, 3, none⟩ = some (.slice a1 s.nodes.length c1) := by rw [← hu]; simp [go_sem, p3]
  replace p4 : u2.cell? ⟨w.heap.size, 4, none⟩ = some (.slice a2 s.acked.length c2) := by rw [← hu]; simp [go_sem, p4]
  replace o0 : u2.cell? ⟨w.heap.size + 1 + 1, 0, none⟩ = some (.int .i64 s.tep) := by rw [← hu]; simp [go_sem, o0]
  replace o1 : u2.cell? ⟨w.heap.size + 1 + 1, 1, none⟩ = some (.int .i64 s.tld) := by rw [← hu]; simp [go_sem, o1]
  replace o2 : u2.cell? ⟨w.heap.size + 1 + 1, 2, none⟩ = some (.slice s2 s.tst.length s.tst.length) := by rw [← hu]; simp [go_sem, o2]
  replace o3 : u2.cell? ⟨w.heap.size + 1 + 1, 3, none⟩ = some (.slice s3 s.nodes.length s.nodes.length) := by rw [← hu]; simp [go_sem, o3]
  replace o4 : u2.cell? ⟨w.heap.size + 1 + 1, 4, none⟩ = some (.slice none 0 0) := by rw [← hu]; simp [go_sem, o4]
  replace t0 : u2.cell? ⟨w.heap.size + 1, 0, none⟩ = some (.int .i64 0) := by rw [← hu]; simp [go_sem, t0]
  replace t1 : u2.cell? ⟨w.heap.size + 1, 1, none⟩ = some (.int .i64 0) := by rw [← hu]; simp [go_sem, t1]
  replace t2 : u2.cell? ⟨w.heap.size + 1, 2, none⟩ = some (.slice none 0 0) := by rw [← hu]; simp [go_sem, t2]
  replace t3 : u2.cell? ⟨w.heap.size + 1, 3, none⟩ = some (.slice none 0 0) := by rw [← hu]; simp [go_sem, t3]
  replace t4 : u2.cell? ⟨w.heap.size + 1, 4, none⟩ = some (.slice none 0 0) := by rw [← hu]; simp [go_sem, t4]
  replace x0 : ∀ o, u2.frozen? ⟨w.heap.size, o, none⟩ = false := fun o => by rw [← hu]; simp [go_sem, x0]
  replace x1 : ∀ o, u2.frozen? ⟨w.heap.size + 1, o, none⟩ = false := fun o => by rw [← hu]; simp [go_sem, x1]
  replace x2 : ∀ o, u2.frozen? ⟨w.heap.size + 1 + 1, o, none⟩ = false := fun o => by rw [← hu]; simp [go_sem, x2]
  replace hz2 : w.heap.size + 1 + 1 + 1 ≤ u2.heap.size := by rw [← hu]; simpa using hz2
  have hzu : w2.heap.size ≤ u2.heap.size := by rw [← hu]; simp
  have H2' : Ints u2 s2 s.tst := by rw [← hu]; exact (H2.setR R2 (by omega) _ _)
  have R2' : RowI u2 (w.heap.size + 1 + 1 + 1) s2 s.tst.length := by rw [← hu]; exact (R2.setR (by omega) _ _)
  have R3' : NdsA u2 (w.heap.size + 1 + 1 + 1) s3 s.nodes := by rw [← hu]; exact (R3.setR (by omega) _ _)
  have V3' : NdW u2 (w.heap.size + 1 + 1 + 1) h3 s3 s.nodes := by rw [← hu]; exact (V3.setR (by omega) _ _)
  clear hu H2 R2 R3 V3 HB
  refine (toRowS_row _ _ _ _ (hs.acked.below HS) hl.acked).mono ?_
  rintro r w3 ⟨s4, rfl, H4, R4, hB⟩
  have H2 := H2'.below hB
  have R2 := R2'.below hB
  have R3 := R3'.below hB
  have V3 := V3'.below hB
  replace p0 := celB hB p0
  replace o0 := celB hB o0
  replace t0 := celB hB t0
  replace p1 := celB hB p1
  replace o1 := celB hB o1
  replace t1 := celB hB t1
  replace p2 := celB hB p2
  replace o2 := celB hB o2
  replace t2 := celB hB t2
  replace p3 := celB hB p3
  replace o3 := celB hB o3
  replace t3 := celB hB t3
  replace p4 := celB hB p4
  replace o4 := celB hB o4
  replace t4 := celB hB t4
  replace x0 := fun o => frzB (o := o) hB (by omega) (x0 o)
  replace x1 := fun o => frzB (o := o) hB (by omega) (x1 o)
  replace x2 := fun o => frzB (o := o) hB (by omega) (x2 o)
  replace R4 := R4.mono (B' := w.heap.size + 1 + 1 + 1) (by omega)
  have HB : Below w.heap.size w w3 := HS.trans (hB.mono HS.size)
  have hz3 : w.heap.size + 1 + 1 + 1 ≤ w3.heap.size := by have := hB.size; omega
  replace hh3 : h3 ≤ w3.heap.size := by have := hB.size; omega
  clear hB HS hz2 hzu H2' R2' R3' V3'
  go_wp2
  refine bodyPost_ret (v := cuV s s2 s.tst.length s3 s.nodes.length s4 s.acked.length) (by simp [results, Tryd.results12, go_sem, t0, t1, t2, t3, t4]) rfl ⟨_, _, _, rfl, ⟨?_, ?_, ?_⟩, ⟨?_, ?_, ?_, ?_, ?_⟩, ?_, ?_⟩
  · exact ((((((H2.setR R2 (by omega) _ _).setR (R2.setR (by omega) _ _) (by omega) _ _).setR ((R2.setR (by omega) _ _).setR (by omega) _ _) (by omega) _ _).setR (((R2.setR (by omega) _ _).setR (by omega) _ _).setR (by omega) _ _) (by omega) _ _).setR ((((R2.setR (by omega) _ _).setR (by omega) _ _).setR (by omega) _ _).setR (by omega) _ _) (by omega) _ _).setR (((((R2.setR (by omega) _ _).setR (by omega) _ _).setR (by omega) _ _).setR (by omega) _ _).setR (by omega) _ _) (by omega) _ _)
  · exact ((((((R3.setR (by omega) _ _).setR (by omega) _ _).setR (by omega) _ _).setR (by omega) _ _).setR (by omega) _ _).setR (by omega) _ _).here
  · exact ((((((H4.setR R4 (by omega) _ _).setR (R4.setR (by omega) _ _) (by omega) _ _).setR ((R4.setR (by omega) _ _).setR (by omega) _ _) (by omega) _ _).setR (((R4.setR (by omega) _ _).setR (by omega) _ _).setR (by omega) _ _) (by omega) _ _).setR ((((R4.setR (by omega) _ _).setR (by omega) _ _).setR (by omega) _ _).setR (by omega) _ _) (by omega) _ _).setR (((((R4.setR (by omega) _ _).setR (by omega) _ _).setR (by omega) _ _).setR (by omega) _ _).setR (by omega) _ _) (by omega) _ _)
  · exact ((((((R2.setR (by omega) _ _).setR (by omega) _ _).setR (by omega) _ _).setR (by omega) _ _).setR (by omega) _ _).setR (by omega) _ _).mono (by omega)
  · exact fun b hb => (((((((R2.setR (by omega) _ _).setR (by omega) _ _).setR (by omega) _ _).setR (by omega) _ _).setR (by omega) _ _).setR (by omega) _ _).lt hb).2
  · exact (((((((V3.setR (by omega) _ _).setR (by omega) _ _).setR (by omega) _ _).setR (by omega) _ _).setR (by omega) _ _).setR (by omega) _ _).low (by omega)).high (by simpa using hh3)
  · exact ((((((R4.setR (by omega) _ _).setR (by omega) _ _).setR (by omega) _ _).setR (by omega) _ _).setR (by omega) _ _).setR (by omega) _ _).mono (by omega)
  · exact fun b hb => (((((((R4.setR (by omega) _ _).setR (by omega) _ _).setR (by omega) _ _).setR (by omega) _ _).setR (by omega) _ _).setR (by omega) _ _).lt hb).2
  · exact ((((((R3.setR (by omega) _ _).setR (by omega) _ _).setR (by omega) _ _).setR (by omega) _ _).setR (by omega) _ _).setR (by omega) _ _).hereK
  · exact ((((((HB.setCell (by first | (simp; done) | (simp; omega)) _).setCell (by first | (simp; done) | (simp; omega)) _).setCell (by first | (simp; done) | (simp; omega)) _).setCell (by first | (simp; done) | (simp; omega)) _).setCell (by first | (simp; done) | (simp; omega)) _).setCell (by first | (simp; done) | (simp; omega)) _)

theorem toCluster_wk (s : Cu) (a0 a1 a2 : Option Addr) (c0 c1 c2 : Nat) (w : World) (hs : CuR w s a0 a1 a2) (hl : CuB s) :
    Calls Tryd.prog 12 #[cuV s a0 c0 a1 c1 a2 c2] w fun r w' => ∃ b0 b1 b2, r = .returned (cuV s b0 s.tst.length b1 s.nodes.length b2 s.acked.length) ∧ CuR w' s b0 b1 b2 ∧ CuW w' w.heap.size w'.heap.size s b0 b1 b2 ∧ Below w.heap.size w w' :=
  (toCluster_wkk s a0 a1 a2 c0 c1 c2 w hs hl).mono fun _ _ ⟨b0, b1, b2, h1, h2, h3, _, h4⟩ => ⟨b0, b1, b2, h1, h2, h3, h4⟩

theorem markView_wk (e d : Int) (a : Option Addr) (c n B H k : Nat) (w : World) (h : RowI w B a n) (hN : ∀ b, InI a n b → b < H) (hB : B ≤ w.heap.size) (h2 : k + n ≤ 4000000000000000000) :
    Calls Tryd.prog 26 #[.agg #[.int .i64 e, .int .i64 d, .slice a n c], .int .i64 (k : Int)] w fun r w' => r = .returned (.int .i64 ((k + n : Nat) : Int)) ∧ Wk w w' B H ∧ Typ [3] w w' := by
  have bB : ∀ o, Below w.heap.size w (w.alloc o) := fun o => (Below.refl _ _).alloc (Nat.le_refl _) o
  go_enter Tryd.func26, Tryd.ntmps26
  go_wp2_with fail
  refine (markIntS_wk _ _ n B k _ (h.below (bB _)) h2).mono ?_
  rintro r w1 ⟨rfl, hb, hK, hO⟩
  have X : Wk w w1 B H := ⟨((bB _).mono hB).trans hb, fun b h1 h2 => (hO b fun hi => by have := hN b hi; omega).trans ((bB _).block b h2), (Kps.below (bB _)).trans hK⟩
  have Y : Typ [3] w w1 := Typ.trans (fun t b m f hr hn => (bB _).block b hr.lt) (Typ.of_row hO ((h.below (bB _)).typ (by simp)))
  clear hb hK hO bB h
  go_wp2
  go_ret
  exact ⟨rfl, X, Y⟩

set_option maxRecDepth 100000 in
set_option maxHeartbeats 4000000 in
theorem markCluster_wk (s : Cu) (B H k : Nat) (a0 a1 a2 : Option Addr) (c0 c1 c2 : Nat) (w : World) (h : CuW w B H s a0 a1 a2) (hl : CuB s) (hBw : B ≤ w.heap.size) (hH : H ≤ w.heap.size) (hk : k ≤ 1000000) :
    Calls Tryd.prog 8 #[cuV s a0 c0 a1 c1 a2 c2, .int .i64 (k : Int)] w fun r w' => ∃ k' : Nat, r = .returned (.int .i64 (k' : Int)) ∧ Wk w w' B H := by
  have l0 := hl.tst
  have l1 := hl.nodes
  have l2 := hl.acked
  obtain ⟨u0, hu0⟩ : ∃ u0, (w.alloc (.cells #[.int .i64 s.tep, .int .i64 s.tld, .slice a0 s.tst.length c0, .slice a1 s.nodes.length c1, .slice a2 s.acked.length c2] 28)) = u0 := ⟨_, rfl⟩
  have p0 : u0.cell? ⟨w.heap.size, 0, none⟩ = some (.int .i64 s.tep) := by rw [← hu0]; simp [go_sem]
  have p1 : u0.cell? ⟨w.heap.size, 1, none⟩ = some (.int .i64 s.tld) := by rw [← hu0]; simp [go_sem]
  have p2 : u0.cell? ⟨w.heap.size, 2, none⟩ = some (.slice a0 s.tst.length c0) := by rw [← hu0]; simp [go_sem]
  have p3 : u0.cell? ⟨w.heap.size, 3, none⟩ = some (.slice a1 s.nodes.length c1) := by rw [← hu0]; simp [go_sem]
  have p4 : u0.cell? ⟨w.heap.size, 4, none⟩ = some (.slice a2 s.acked.length c2) := by rw [← hu0]; simp [go_sem]
  have bB : Below w.heap.size w u0 := by rw [← hu0]; exact alCu _ _
  have h0 := h.below bB
  have HW : Hid (Wk u0 u0 B H) := Wk.refl _ _ _
  have hz0 : w.heap.size < u0.heap.size := by rw [← hu0]; simp
  clear h
  have g1 := h0.nodes
  go_enter Tryd.func8, Tryd.ntmps8
  go_wp2_with fail
  clear hu0
  have rw0 := h0.tst.kps HW.out.kps
  refine (markView_wk s.tep s.tld a0 c0 s.tst.length B H k _ rw0 h0.tstH (by omega) (by omega)).mono ?_
  rintro r w1 ⟨rfl, X, Y⟩
  replace p3 := X.cell (.inr hH) p3
  replace p4 := X.cell (.inr hH) p4
  replace g1 := g1.typ X.kps Y (by simp)
  replace HW : Hid (Wk u0 w1 B H) := HW.out.trans X
  clear X Y rw0
  obtain ⟨K0, hK0⟩ : ∃ K, k + s.tst.length = K := ⟨_, rfl⟩
  rw [hK0]
  go_wp2_with fail
  refine (markNodeS_wk _ _ B H K0 s.nodes _ (g1) hl.nodesI (by omega)).mono ?_
  rintro r w2 ⟨K1, rfl, hK1, X, Y⟩
  replace p4 := X.cell (.inr hH) p4
  replace HW : Hid (Wk u0 w2 B H) := HW.out.trans X
  clear X Y g1
  go_wp2_with fail
  have rw2 := h0.acked.kps HW.out.kps
  refine (markRowS_wk _ _ s.acked.length B K1 _ rw2 (by omega)).mono ?_
  rintro r w3 ⟨rfl, hB, hK, hO⟩
  have X : Wk w2 w3 B H := Wk.of_mark hB hK hO h0.ackedH
  have Y : Typ [81] w2 w3 := Typ.of_row hO (rw2.typ (by simp))
  replace HW : Hid (Wk u0 w3 B H) := HW.out.trans X
  clear hB hK hO X Y rw2
  obtain ⟨K2, hK2⟩ : ∃ K, K1 + 2 * s.acked.length = K := ⟨_, rfl⟩
  rw [hK2]
  have HF : Hid (Wk w w3 B H) := ⟨(bB.mono hBw).trans HW.out.bel, fun b h1 h2 => (HW.out.out b h1 (by have := bB.size; omega)).trans (bB.block b h2), (Kps.below bB).trans HW.out.kps⟩
  clear HW
  go_wp2
  go_ret
  exact ⟨K2, rfl, HF.out⟩

end Go.Proofs.YtekjpbfmiebigaaDoor
