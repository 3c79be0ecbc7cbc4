/-
  Cluster as a call reads it, and the contracts of the laws' helpers szCluster, toCluster, eqCluster. Made by mktop.py.
-/
import Derived.Test.YtekjpbfmiebigaaDoorNde
namespace Go.Proofs.YtekjpbfmiebigaaDoor
open Go.RowKit

structure Cu where
  tep : Int
  tld : Int
  tst : List Int
  nodes : List Nd
  acked : List Rw

abbrev cuV (s : Cu) (a0 : Option Addr) (c0 : Nat) (a1 : Option Addr) (c1 : Nat) (a2 : Option Addr) (c2 : Nat) : Value :=
  .agg #[.int .i64 s.tep, .int .i64 s.tld, .slice a0 s.tst.length c0, .slice a1 s.nodes.length c1, .slice a2 s.acked.length c2]

/-- Its lists read so. -/
structure CuR (w : World) (s : Cu) (a0 a1 a2 : Option Addr) : Prop where
  tst : Ints w a0 s.tst
  nodes : Nds w a1 s.nodes
  acked : Rws w a2 s.acked

theorem CuR.below {w w' : World} {s : Cu} {a0 a1 a2 : Option Addr} (h : CuR w s a0 a1 a2) (hb : Below w.heap.size w w') : CuR w' s a0 a1 a2 :=
  ⟨h.tst.below hb, h.nodes.below hb, h.acked.below hb⟩

structure CuL (s : Cu) : Prop where
  tst : s.tst.length ≤ maxLen
  nodes : s.nodes.length ≤ maxLen
  acked : s.acked.length ≤ maxLen

structure CuB (s : Cu) : Prop where
  tst : s.tst.length ≤ 1048576
  nodes : s.nodes.length ≤ 1048576
  nodesI : ∀ c, c ∈ s.nodes → c.steps.length ≤ 1048576 ∧ c.log.length ≤ 1048576 ∧ c.known.length ≤ 1048576
  acked : s.acked.length ≤ 1048576

theorem CuB.len {s : Cu} (h : CuB s) : CuL s := by
  have h0 := h.tst
  have h1 := h.nodes
  have h2 := h.acked
  exact ⟨by unfold maxLen; omega, by unfold maxLen; omega, by unfold maxLen; omega⟩

def szCu (s : Cu) : Int := if szN s.tst.length 1048576 < 0 then -1 else if szNds s.nodes (szN s.tst.length 1048576) < 0 then -1 else szN s.acked.length (szNds s.nodes (szN s.tst.length 1048576))

theorem szCu_range (s : Cu) : -1 ≤ szCu s ∧ szCu s ≤ 1048576 := by
  unfold szCu
  have e0 := szN_range s.tst.length (left := 1048576) (by omega)
  split
  · omega
  have e1 := szNds_range s.nodes (left := (szN s.tst.length 1048576)) (by omega)
  split
  · omega
  have e2 := szN_range s.acked.length (left := (szNds s.nodes (szN s.tst.length 1048576))) (by omega)
  omega

theorem szCu_bound {s : Cu} (h : 0 ≤ szCu s) : CuB s := by
  unfold szCu at h
  have e0 := szN_range s.tst.length (left := 1048576) (by omega)
  split at h
  · omega
  have b0 := szN_bound (n := s.tst.length) (left := 1048576) (by omega)
  have e1 := szNds_range s.nodes (left := (szN s.tst.length 1048576)) (by omega)
  split at h
  · omega
  obtain ⟨b1, g1⟩ := szNds_bound (l := s.nodes) (left := (szN s.tst.length 1048576)) (by omega) (by omega)
  have e2 := szN_range s.acked.length (left := (szNds s.nodes (szN s.tst.length 1048576))) (by omega)
  have b2 := szN_bound (n := s.acked.length) (left := (szNds s.nodes (szN s.tst.length 1048576))) (by omega)
  exact ⟨by omega, by omega, g1, by omega⟩

theorem alCu (u : World) (o : Obj) : Below u.heap.size u (u.alloc o) := (Below.refl _ _).alloc (Nat.le_refl _) o

theorem stCu {W a b : World} (h : Below W.heap.size W a) (k : Below a.heap.size a b) : Below W.heap.size W b := h.trans (k.mono h.size)

set_option maxHeartbeats 2000000 in
theorem szCluster_any (s : Cu) (a0 a1 a2 : Option Addr) (c0 c1 c2 : Nat) (w : World) (hs : CuR w s a0 a1 a2) (hl : CuL s) :
    Calls Tryd.prog 10 #[cuV s a0 c0 a1 c1 a2 c2, .int .i64 1048576] w fun r w' => r = .returned (.int .i64 (szCu s)) ∧ Below w.heap.size w w' := by
  have e0 := szN_range s.tst.length (left := 1048576) (by omega)
  have hv := szVw_n s.tep s.tld s.tst (left := 1048576) (by omega)
  go_enter Tryd.func10, Tryd.ntmps10
  go_wp2_with fail
  refine (szView_any ⟨s.tep, s.tld, s.tst⟩ a0 c0 1048576 _ hl.tst (by omega) (by omega)).mono ?_
  rintro r w1 ⟨rfl, hB⟩
  rw [hv]
  have p1 : w1.cell? ⟨w.heap.size, 3, none⟩ = some (.slice a1 s.nodes.length c1) := celB hB (by simp [go_sem])
  have p2 : w1.cell? ⟨w.heap.size, 4, none⟩ = some (.slice a2 s.acked.length c2) := celB hB (by simp [go_sem])
  have hs1 := (hs.below (alCu w _)).below hB
  have HW := stCu (alCu _ _) hB
  clear hB hv
  by_cases n0 : szN s.tst.length 1048576 < 0
  · have HE : Hid (szCu s = -1) := by show _ = _; unfold szCu; rw [if_pos n0]
    go_wp2
    go_ret
    exact ⟨ret_int (by rw [HE.out]), HW⟩
  have HN0 : Hid (¬ szN s.tst.length 1048576 < 0) := n0
  have e1 := szNds_range s.nodes (left := (szN s.tst.length 1048576)) (by omega)
  go_wp2_with fail
  refine (szNodeS_any _ _ _ _ _ hs1.nodes hl.nodes (by omega) (by omega)).mono ?_
  rintro r w2 ⟨rfl, hB⟩
  replace p2 := celB hB p2
  replace HW := stCu HW hB
  clear hB p1 hs1
  by_cases n1 : szNds s.nodes (szN s.tst.length 1048576) < 0
  · have HE : Hid (szCu s = -1) := by show _ = _; unfold szCu; rw [if_neg (by have := HN0.out; omega : ¬ szN s.tst.length 1048576 < 0)]; rw [if_pos n1]
    go_wp2
    go_ret
    exact ⟨ret_int (by rw [HE.out]), HW⟩
  have HN1 : Hid (¬ szNds s.nodes (szN s.tst.length 1048576) < 0) := n1
  have e2 := szN_range s.acked.length (left := (szNds s.nodes (szN s.tst.length 1048576))) (by omega)
  have HE : Hid (szCu s = szN s.acked.length (szNds s.nodes (szN s.tst.length 1048576))) := by show _ = _; unfold szCu; rw [if_neg (by have := HN0.out; omega : ¬ szN s.tst.length 1048576 < 0), if_neg (by have := HN1.out; omega : ¬ szNds s.nodes (szN s.tst.length 1048576) < 0)]
  go_wp2_with fail
  refine (szRowS_any _ _ _ _ _ hl.acked (by omega) (by omega)).mono ?_
  rintro e w' ⟨rfl, rfl⟩
  by_cases n2 : szN s.acked.length (szNds s.nodes (szN s.tst.length 1048576)) < 0
  · go_wp2
    go_ret
    exact ⟨ret_int (by rw [HE.out]; omega), HW⟩
  · go_wp2
    go_ret
    exact ⟨ret_int HE.out.symm, HW⟩

set_option maxHeartbeats 4000000 in
theorem toCluster_k (s : Cu) (a0 a1 a2 : Option Addr) (c0 c1 c2 : Nat) (w : World) (hs : CuR w s a0 a1 a2) (hl : CuB s) :
    Calls Tryd.prog 12 #[cuV s a0 c0 a1 c1 a2 c2] w fun r w' => ∃ b0 b1 b2, r = .returned (cuV s b0 s.tst.length b1 s.nodes.length b2 s.acked.length) ∧ CuR w' s b0 b1 b2 ∧ NdsK w' b1 s.nodes ∧ Below w.heap.size w w' := by
  have hb3 : ∀ x y z, Below w.heap.size w (((w.alloc x).alloc y).alloc z) := fun _ _ _ => (((Below.refl _ _).alloc (Nat.le_refl _) _).alloc (by simp) _).alloc (by simp; omega) _
  go_enter Tryd.func12, Tryd.ntmps12
  go_wp2_with fail
  refine (toView_any ⟨s.tep, s.tld, s.tst⟩ a0 c0 _ (hs.tst.below (hb3 _ _ _)) hl.tst).mono ?_
  rintro r w1 ⟨s2, rfl, H2, R2, hB⟩
  have HB : Below w.heap.size w w1 := (hb3 _ _ _).trans (hB.mono (hb3 _ _ _).size)
  have p0 : w1.cell? ⟨w.heap.size, 0, none⟩ = some (.int .i64 s.tep) := celB hB (by simp [go_sem])
  have p1 : w1.cell? ⟨w.heap.size, 1, none⟩ = some (.int .i64 s.tld) := celB hB (by simp [go_sem])
  have p2 : w1.cell? ⟨w.heap.size, 2, none⟩ = some (.slice a0 s.tst.length c0) := celB hB (by simp [go_sem])
  have p3 : w1.cell? ⟨w.heap.size, 3, none⟩ = some (.slice a1 s.nodes.length c1) := celB hB (by simp [go_sem])
  have p4 : w1.cell? ⟨w.heap.size, 4, none⟩ = some (.slice a2 s.acked.length c2) := celB hB (by simp [go_sem])
  have o0 : w1.cell? ⟨w.heap.size + 1 + 1, 0, none⟩ = some (.int .i64 0) := celB hB (by simp [go_sem])
  have o1 : w1.cell? ⟨w.heap.size + 1 + 1, 1, none⟩ = some (.int .i64 0) := celB hB (by simp [go_sem])
  have o2 : w1.cell? ⟨w.heap.size + 1 + 1, 2, none⟩ = some (.slice none 0 0) := celB hB (by simp [go_sem])
  have o3 : w1.cell? ⟨w.heap.size + 1 + 1, 3, none⟩ = some (.slice none 0 0) := celB hB (by simp [go_sem])
  have o4 : w1.cell? ⟨w.heap.size + 1 + 1, 4, none⟩ = some (.slice none 0 0) := celB hB (by simp [go_sem])
  have t0 : w1.cell? ⟨w.heap.size + 1, 0, none⟩ = some (.int .i64 0) := celB hB (by simp [go_sem])
  have t1 : w1.cell? ⟨w.heap.size + 1, 1, none⟩ = some (.int .i64 0) := celB hB (by simp [go_sem])
  have t2 : w1.cell? ⟨w.heap.size + 1, 2, none⟩ = some (.slice none 0 0) := celB hB (by simp [go_sem])
  have t3 : w1.cell? ⟨w.heap.size + 1, 3, none⟩ = some (.slice none 0 0) := celB hB (by simp [go_sem])
  have t4 : w1.cell? ⟨w.heap.size + 1, 4, none⟩ = some (.slice none 0 0) := celB hB (by simp [go_sem])
  have x0 : ∀ o, w1.frozen? ⟨w.heap.size, o, none⟩ = false := fun o => frzB hB (by simp; omega) (by simp [go_sem])
  have x1 : ∀ o, w1.frozen? ⟨w.heap.size + 1, o, none⟩ = false := fun o => frzB hB (by simp) (by simp [go_sem])
  have x2 : ∀ o, w1.frozen? ⟨w.heap.size + 1 + 1, o, none⟩ = false := fun o => frzB hB (by simp) (by simp [go_sem])
  have hz1 := hB.size
  simp only [World.size_alloc] at hz1 R2
  clear hB
  go_wp2_with fail
  obtain ⟨u1, hu⟩ : ∃ u, (((w1.setCell ⟨w.heap.size + 1 + 1, 0, none⟩ (.int .i64 s.tep)).setCell ⟨w.heap.size + 1 + 1, 1, none⟩ (.int .i64 s.tld)).setCell ⟨w.heap.size + 1 + 1, 2, none⟩ (.slice s2 s.tst.length s.tst.length)) = u := ⟨_, rfl⟩
  rw [hu]
  have HS : Below w.heap.size w u1 := by rw [← hu]; exact ((HB.setCell (by first | (simp; done) | (simp; omega)) _).setCell (by first | (simp; done) | (simp; omega)) _).setCell (by first | (simp; done) | (simp; omega)) _
  replace p0 : u1.cell? ⟨w.heap.size, 0, none⟩ = some (.int .i64 s.tep) := by rw [← hu]; simp [go_sem, p0]
  replace p1 : u1.cell? ⟨w.heap.size, 1, none⟩ = some (.int .i64 s.tld) := by rw [← hu]; simp [go_sem, p1]
  replace p2 : u1.cell? ⟨w.heap.size, 2, none⟩ = some (.slice a0 s.tst.length c0) := by rw [← hu]; simp [go_sem, p2]
  replace p3 : u1.cell? ⟨w.heap.size, 3, none⟩ = some (.slice a1 s.nodes.length c1) := by rw [← hu]; simp [go_sem, p3]
  replace p4 : u1.cell? ⟨w.heap.size, 4, none⟩ = some (.slice a2 s.acked.length c2) := by rw [← hu]; simp [go_sem, p4]
  replace o0 : u1.cell? ⟨w.heap.size + 1 + 1, 0, none⟩ = some (.int .i64 s.tep) := by rw [← hu]; simp [go_sem, o0]
  replace o1 : u1.cell? ⟨w.heap.size + 1 + 1, 1, none⟩ = some (.int .i64 s.tld) := by rw [← hu]; simp [go_sem, o1]
  replace o2 : u1.cell? ⟨w.heap.size + 1 + 1, 2, none⟩ = some (.slice s2 s.tst.length s.tst.length) := by rw [← hu]; simp [go_sem, o2]
  replace o3 : u1.cell? ⟨w.heap.size + 1 + 1, 3, none⟩ = some (.slice none 0 0) := by rw [← hu]; simp [go_sem, o3]
  replace o4 : u1.cell? ⟨w.heap.size + 1 + 1, 4, none⟩ = some (.slice none 0 0) := by rw [← hu]; simp [go_sem, o4]
  replace t0 : u1.cell? ⟨w.heap.size + 1, 0, none⟩ = some (.int .i64 0) := by rw [← hu]; simp [go_sem, t0]
  replace t1 : u1.cell? ⟨w.heap.size + 1, 1, none⟩ = some (.int .i64 0) := by rw [← hu]; simp [go_sem, t1]
  replace t2 : u1.cell? ⟨w.heap.size + 1, 2, none⟩ = some (.slice none 0 0) := by rw [← hu]; simp [go_sem, t2]
  replace t3 : u1.cell? ⟨w.heap.size + 1, 3, none⟩ = some (.slice none 0 0) := by rw [← hu]; simp [go_sem, t3]
  replace t4 : u1.cell? ⟨w.heap.size + 1, 4, none⟩ = some (.slice none 0 0) := by rw [← hu]; simp [go_sem, t4]
  replace x0 : ∀ o, u1.frozen? ⟨w.heap.size, o, none⟩ = false := fun o => by rw [← hu]; simp [go_sem, x0]
  replace x1 : ∀ o, u1.frozen? ⟨w.heap.size + 1, o, none⟩ = false := fun o => by rw [← hu]; simp [go_sem, x1]
  replace x2 : ∀ o, u1.frozen? ⟨w.heap.size + 1 + 1, o, none⟩ = false := fun o => by rw [← hu]; simp [go_sem, x2]
  replace hz1 : w.heap.size + 1 + 1 + 1 ≤ u1.heap.size := by rw [← hu]; simpa using hz1
  have H2' : Ints u1 s2 s.tst := by rw [← hu]; exact ((H2.setR R2 (by omega) _ _).setR (R2.setR (by omega) _ _) (by omega) _ _).setR ((R2.setR (by omega) _ _).setR (by omega) _ _) (by omega) _ _
  have R2' : RowI u1 (w.heap.size + 1 + 1 + 1) s2 s.tst.length := by rw [← hu]; exact ((R2.setR (by omega) _ _).setR (by omega) _ _).setR (by omega) _ _
  clear hu H2 R2 HB
  refine (toNodeS_any _ _ _ _ (hs.nodes.below HS) hl.nodes hl.nodesI).mono ?_
  rintro r w2 ⟨s3, rfl, -, R3, hB⟩
  have H2 := H2'.below hB
  have R2 := R2'.below hB
  replace p0 := celB hB p0
  replace o0 := celB hB o0
  replace t0 := celB hB t0
  replace p1 := celB hB p1
  replace o1 := celB hB o1
  replace t1 := celB hB t1
  replace p2 := celB hB p2
  replace o2 := celB hB o2
  replace t2 := celB hB t2
  replace p3 := celB hB p3
  replace o3 := celB hB o3
  replace t3 := celB hB t3
  replace p4 := celB hB p4
  replace o4 := celB hB o4
  replace t4 := celB hB t4
  replace x0 := fun o => frzB (o := o) hB (by omega) (x0 o)
  replace x1 := fun o => frzB (o := o) hB (by omega) (x1 o)
  replace x2 := fun o => frzB (o := o) hB (by omega) (x2 o)
  replace R3 := R3.mono (B' := w.heap.size + 1 + 1 + 1) (by omega)
  have HB : Below w.heap.size w w2 := HS.trans (hB.mono HS.size)
  have hz2 : w.heap.size + 1 + 1 + 1 ≤ w2.heap.size := by have := hB.size; omega
  clear hB HS hz1 H2' R2'
  go_wp2_with fail
  obtain ⟨u2, hu⟩ : ∃ u, (w2.setCell ⟨w.heap.size + 1 + 1, 3, none⟩ (.slice s3 s.nodes.length s.nodes.length)) = u := ⟨_, rfl⟩
  rw [hu]
  have HS : Below w.heap.size w u2 := by rw [← hu]; exact HB.setCell (by first | (simp; done) | (simp; omega)) _
  replace p0 : u2.cell? ⟨w.heap.size, 0, none⟩ = some (.int .i64 s.tep) := by rw [← hu]; simp [go_sem, p0]
  replace p1 : u2.cell? ⟨w.heap.size, 1, none⟩ = some (.int .i64 s.tld) := by rw [← hu]; simp [go_sem, p1]
  replace p2 : u2.cell? ⟨w.heap.size, 2, none⟩ = some (.slice a0 s.tst.length c0) := by rw [← hu]; simp [go_sem, p2]
  replace p3 : u2.cell? ⟨w.heap.size, 3, none⟩ = some (.slice a1 s.nodes.length c1) := by rw [← hu]; simp [go_sem, p3]
  replace p4 : u2.cell? ⟨w.heap.size, 4, none⟩ = some (.slice a2 s.acked.length c2) := by rw [← hu]; simp [go_sem, p4]
  replace o0 : u2.cell? ⟨w.heap.size + 1 + 1, 0, none⟩ = some (.int .i64 s.tep) := by rw [← hu]; simp [go_sem, o0]
  replace o1 : u2.cell? ⟨w.heap.size + 1 + 1, 1, none⟩ = some (.int .i64 s.tld) := by rw [← hu]; simp [go_sem, o1]
  replace o2 : u2.cell? ⟨w.heap.size + 1 + 1, 2, none⟩ = some (.slice s2 s.tst.length s.tst.length) := by rw [← hu]; simp [go_sem, o2]
  replace o3 : u2.cell? ⟨w.heap.size + 1 + 1, 3, none⟩ = some (.slice s3 s.nodes.length s.nodes.length) := by rw [← hu]; simp [go_sem, o3]
  replace o4 : u2.cell? ⟨w.heap.size + 1 + 1, 4, none⟩ = some (.slice none 0 0) := by rw [← hu]; simp [go_sem, o4]
  replace t0 : u2.cell? ⟨w.heap.size + 1, 0, none⟩ = some (.int .i64 0) := by rw [← hu]; simp [go_sem, t0]
  replace t1 : u2.cell? ⟨w.heap.size + 1, 1, none⟩ = some (.int .i64 0) := by rw [← hu]; simp [go_sem, t1]
  replace t2 : u2.cell? ⟨w.heap.size + 1, 2, none⟩ = some (.slice none 0 0) := by rw [← hu]; simp [go_sem, t2]
  replace t3 : u2.cell? ⟨w.heap.size + 1, 3, none⟩ = some (.slice none 0 0) := by rw [← hu]; simp [go_sem, t3]
  replace t4 : u2.cell? ⟨w.heap.size + 1, 4, none⟩ = some (.slice none 0 0) := by rw [← hu]; simp [go_sem, t4]
  replace x0 : ∀ o, u2.frozen? ⟨w.heap.size, o, none⟩ = false := fun o => by rw [← hu]; simp [go_sem, x0]
  replace x1 : ∀ o, u2.frozen? ⟨w.heap.size + 1, o, none⟩ = false := fun o => by rw [← hu]; simp [go_sem, x1]
  replace x2 : ∀ o, u2.frozen? ⟨w.heap.size + 1 + 1, o, none⟩ = false := fun o => by rw [← hu]; simp [go_sem, x2]
  replace hz2 : w.heap.size + 1 + 1 + 1 ≤ u2.heap.size := by rw [← hu]; simpa using hz2
  have H2' : Ints u2 s2 s.tst := by rw [← hu]; exact H2.setR R2 (by omega) _ _
  have R2' : RowI u2 (w.heap.size + 1 + 1 + 1) s2 s.tst.length := by rw [← hu]; exact R2.setR (by omega) _ _
  have R3' : NdsA u2 (w.heap.size + 1 + 1 + 1) s3 s.nodes := by rw [← hu]; exact R3.setR (by omega) _ _
  clear hu H2 R2 R3 HB
  refine (toRowS_any _ _ _ _ (hs.acked.below HS) hl.acked).mono ?_
  rintro r w3 ⟨s4, rfl, -, R4, hB⟩
  have H2 := H2'.below hB
  have R2 := R2'.below hB
  have R3 := R3'.below hB
  replace p0 := celB hB p0
  replace o0 := celB hB o0
  replace t0 := celB hB t0
  replace p1 := celB hB p1
  replace o1 := celB hB o1
  replace t1 := celB hB t1
  replace p2 := celB hB p2
  replace o2 := celB hB o2
  replace t2 := celB hB t2
  replace p3 := celB hB p3
  replace o3 := celB hB o3
  replace t3 := celB hB t3
  replace p4 := celB hB p4
  replace o4 := celB hB o4
  replace t4 := celB hB t4
  replace x0 := fun o => frzB (o := o) hB (by omega) (x0 o)
  replace x1 := fun o => frzB (o := o) hB (by omega) (x1 o)
  replace x2 := fun o => frzB (o := o) hB (by omega) (x2 o)
  replace R4 := R4.mono (B' := w.heap.size + 1 + 1 + 1) (by omega)
  have HB : Below w.heap.size w w3 := HS.trans (hB.mono HS.size)
  have hz3 : w.heap.size + 1 + 1 + 1 ≤ w3.heap.size := by have := hB.size; omega
  clear hB HS hz2 H2' R2' R3'
  go_wp2
  refine bodyPost_ret (v := cuV s s2 s.tst.length s3 s.nodes.length s4 s.acked.length) (by simp [results, Tryd.results12, go_sem, t0, t1, t2, t3, t4]) rfl ⟨_, _, _, rfl, ⟨?_, ?_, ?_⟩, ?_, ?_⟩
  · exact ((((((H2.setR R2 (by omega) _ _).setR (R2.setR (by omega) _ _) (by omega) _ _).setR ((R2.setR (by omega) _ _).setR (by omega) _ _) (by omega) _ _).setR (((R2.setR (by omega) _ _).setR (by omega) _ _).setR (by omega) _ _) (by omega) _ _).setR ((((R2.setR (by omega) _ _).setR (by omega) _ _).setR (by omega) _ _).setR (by omega) _ _) (by omega) _ _).setR (((((R2.setR (by omega) _ _).setR (by omega) _ _).setR (by omega) _ _).setR (by omega) _ _).setR (by omega) _ _) (by omega) _ _)
  · exact ((((((R3.setR (by omega) _ _).setR (by omega) _ _).setR (by omega) _ _).setR (by omega) _ _).setR (by omega) _ _).setR (by omega) _ _).here
  · exact ((((((R4.setR (by omega) _ _).setR (by omega) _ _).setR (by omega) _ _).setR (by omega) _ _).setR (by omega) _ _).setR (by omega) _ _).here
  · exact ((((((R3.setR (by omega) _ _).setR (by omega) _ _).setR (by omega) _ _).setR (by omega) _ _).setR (by omega) _ _).setR (by omega) _ _).hereK
  · exact ((((((HB.setCell (by first | (simp; done) | (simp; omega)) _).setCell (by first | (simp; done) | (simp; omega)) _).setCell (by first | (simp; done) | (simp; omega)) _).setCell (by first | (simp; done) | (simp; omega)) _).setCell (by first | (simp; done) | (simp; omega)) _).setCell (by first | (simp; done) | (simp; omega)) _)

theorem toCluster_any (s : Cu) (a0 a1 a2 : Option Addr) (c0 c1 c2 : Nat) (w : World) (hs : CuR w s a0 a1 a2) (hl : CuB s) :
    Calls Tryd.prog 12 #[cuV s a0 c0 a1 c1 a2 c2] w fun r w' => ∃ b0 b1 b2, r = .returned (cuV s b0 s.tst.length b1 s.nodes.length b2 s.acked.length) ∧ CuR w' s b0 b1 b2 ∧ Below w.heap.size w w' :=
  (toCluster_k s a0 a1 a2 c0 c1 c2 w hs hl).mono fun _ _ ⟨b0, b1, b2, h1, h2, _, h3⟩ => ⟨b0, b1, b2, h1, h2, h3⟩

set_option maxHeartbeats 2000000 in
theorem eqCluster_same (s : Cu) (a0 a1 a2 b0 b1 b2 : Option Addr) (c0 c1 c2 d0 d1 d2 : Nat) (w : World) (hs : CuR w s a0 a1 a2) (ht : CuR w s b0 b1 b2) (hl : CuL s) :
    Calls Tryd.prog 7 #[cuV s a0 c0 a1 c1 a2 c2, cuV s b0 d0 b1 d1 b2 d2] w fun r w' => r = .returned (.bool true) ∧ Below w.heap.size w w' := by
  have HB : ∀ x y, Below w.heap.size w ((w.alloc x).alloc y) := fun _ _ => ((Below.refl _ _).alloc (Nat.le_refl _) _).alloc (by simp) _
  go_enter Tryd.func7, Tryd.ntmps7
  go_wp2_with fail
  refine (eqView_same ⟨s.tep, s.tld, s.tst⟩ a0 b0 c0 d0 _ (hs.tst.below (HB _ _)) (ht.tst.below (HB _ _)) hl.tst).mono ?_
  rintro r w1 ⟨rfl, hB⟩
  have p3 : w1.cell? ⟨w.heap.size, 3, none⟩ = some (.slice a1 s.nodes.length c1) := celB hB (by simp [go_sem])
  have o3 : w1.cell? ⟨w.heap.size + 1, 3, none⟩ = some (.slice b1 s.nodes.length d1) := celB hB (by simp [go_sem])
  have p4 : w1.cell? ⟨w.heap.size, 4, none⟩ = some (.slice a2 s.acked.length c2) := celB hB (by simp [go_sem])
  have o4 : w1.cell? ⟨w.heap.size + 1, 4, none⟩ = some (.slice b2 s.acked.length d2) := celB hB (by simp [go_sem])
  have BB : Below w.heap.size w w1 := (HB _ _).trans (hB.mono (HB _ _).size)
  clear hB
  go_wp2_with fail
  refine (eqNodeS_same _ _ _ _ _ _ (hs.nodes.below BB) (ht.nodes.below BB) hl.nodes).mono ?_
  rintro r w2 ⟨rfl, hB⟩
  replace p4 := celB hB p4
  replace o4 := celB hB o4
  replace BB := stCu BB hB
  clear hB
  go_wp2_with fail
  refine (eqRowS_same _ _ _ _ _ _ (hs.acked.below BB) (ht.acked.below BB) hl.acked).mono ?_
  rintro r w3 ⟨rfl, hB⟩
  replace BB := stCu BB hB
  clear hB
  go_wp2
  go_ret
  exact ⟨rfl, BB⟩

theorem cu_keep {w w' : World} {b : Nat} {v0 v1 v2 v3 v4 : Value} (hb : Below w.heap.size w w') (h : w.cell? ⟨b, 0, none⟩ = some v0 ∧ w.cell? ⟨b, 1, none⟩ = some v1 ∧ w.cell? ⟨b, 2, none⟩ = some v2 ∧ w.cell? ⟨b, 3, none⟩ = some v3 ∧ w.cell? ⟨b, 4, none⟩ = some v4) : w'.cell? ⟨b, 0, none⟩ = some v0 ∧ w'.cell? ⟨b, 1, none⟩ = some v1 ∧ w'.cell? ⟨b, 2, none⟩ = some v2 ∧ w'.cell? ⟨b, 3, none⟩ = some v3 ∧ w'.cell? ⟨b, 4, none⟩ = some v4 := by
  obtain ⟨h0, h1, h2, h3, h4⟩ := h
  exact ⟨celB hb h0, celB hb h1, celB hb h2, celB hb h3, celB hb h4⟩

end Go.Proofs.YtekjpbfmiebigaaDoor
